import Derived.Test.YtojpbemfbjkjjaaGreatL39
import Derived.Test.YtojpbemfbjkjjaaGreatL44
/- The walk of the law GraphLaws. -/
namespace Go.Proofs.YtojpbemfbjkjjaaGreat
open Go.RowKit Go.Maps

attribute [local go_sem] Oper.semAt_some

set_option maxRecDepth 100000 in
set_option maxHeartbeats 8000000 in
theorem graphLaws_walk (w : World) (a : Option Addr) (n c : Nat) (l : List BornD) (hl : Brs w a n l) (hn : n ≤ 9223372036854775807) (x y z : Int) (hxyz : ∀ u ∈ [x, y, z], -9223372036854775808 ≤ u ∧ u ≤ 9223372036854775807) :
    Calls Tryz.prog 5 #[.slice a n c, .agg #[.int .i64 x, .int .i64 y, .int .i64 z]] w fun e w' => e = .returned (.bool true) ∧ Below w.heap.size w w' := by
  obtain ⟨W0, hW0⟩ : ∃ W, w.alloc (.cells #[.int .i64 x, .int .i64 y, .int .i64 z] 53) = W := ⟨_, rfl⟩
  have HB0 : Hid (Below w.heap.size w W0) := by rw [← hW0]; exact (Below.refl _ w).alloc (Nat.le_refl _) _
  obtain ⟨bx, hbx⟩ : ∃ b, w.heap.size = b := ⟨_, rfl⟩
  have HIn : Hid (Ints W0 (some ⟨bx, 0, none⟩) 3 [x, y, z]) := by rw [← hW0, ← hbx]; exact lit_ints3 w x y z _ _
  have hw1 := gwakes_any W0
  have HA : Hid (Brs W0 a n l ∧ ∀ u ∈ [x, y, z], -9223372036854775808 ≤ u ∧ u ≤ 9223372036854775807) := ⟨hl.below HB0.out, hxyz⟩
  clear hl hxyz
  cases hG : bornG l with
  | none =>
    go_enter Tryz.func5, Tryz.ntmps5
    go_wp2_with fail
    refine hw1.mono ?_
    clear hw1 hW0 hbx
    rintro e w1 ⟨rfl, hB1⟩
    have hbo := born_any w1 a n c l (HA.out.1.below hB1) hn
    rw [hG] at hbo
    have H1 : Hid (Below W0.heap.size W0 w1) := hB1
    clear hB1
    go_wp2_with fail
    refine hbo.mono ?_
    clear hbo
    rintro e w2 ⟨hB2, he⟩
    have he' : e = .returned (.tuple #[.pointer none, .bool true]) := he
    subst he'
    have H2 : Hid (Below W0.heap.size W0 w2) := H1.out.trans (hB2.mono H1.out.size)
    clear hB2 he
    have hw3 := gwakes_any w2
    go_wp2_with fail
    refine hw3.mono ?_
    clear hw3
    rintro e w3 ⟨rfl, hB3⟩
    have H3 : Hid (Below W0.heap.size W0 w3) := H2.out.trans (hB3.mono H2.out.size)
    clear hB3
    go_wp2
    go_ret
    exact ⟨rfl, HB0.out.trans (H3.out.mono HB0.out.size)⟩
  | some st =>
    have HNI : Hid (NI st) := bornG_ni hG
    go_enter Tryz.func5, Tryz.ntmps5
    go_wp2_with fail
    refine hw1.mono ?_
    clear hw1 hW0 hbx
    rintro e w1 ⟨rfl, hB1⟩
    have hbo := born_any w1 a n c l (HA.out.1.below hB1) hn
    rw [hG] at hbo
    have H1 : Hid (Below W0.heap.size W0 w1) := hB1
    clear hB1 hG
    go_wp2_with fail
    refine hbo.mono ?_
    clear hbo
    rintro e w2 ⟨hB2, hb, s, d, S, F, G, X, nv, iv, bv, ns, he, hI, ho5, hi5, hn5⟩
    subst he
    have H2 : Hid (Below W0.heap.size W0 w2) := H1.out.trans (hB2.mono H1.out.size)
    obtain ⟨na, nc, ia, ic, e1, e2, h24, hEnv⟩ := hI.env hn5
    have HI2 : Hid (ns.map Nd.told = st.nodes ∧ BOk st ∧ st.ids.length ≤ 24 ∧ st.os.length ≤ 25 ∧ st.nodes.length ≤ 24) := ⟨hI.nn, hI.ok, hi5, ho5, hn5⟩
    have HEv : Hid (∀ W, Below w2.heap.size w2 W → (W.cell? ⟨hb, 0, none⟩ = some (.pointer (some ⟨s, 0, none⟩)) ∧ W.cell? ⟨hb, 1, none⟩ = some (.slice na ns.length nc) ∧ W.cell? ⟨hb, 2, none⟩ = some (.slice ia st.ids.length ic)) ∧ Ids W ia st.ids.length st.ids ∧ IsSt W s d st.os (fileB (st.os.map obB)).length false F ∧ NEnv W na ns.length ns) := hEnv
    clear hB2 hI hi5 ho5 hn5 hEnv e1 e2
    have hw3 := gwakes_any w2
    go_wp2_with fail
    refine hw3.mono ?_
    clear hw3
    rintro e w3 ⟨rfl, hB3⟩
    have H3 : Hid (Below w2.heap.size w2 w3) := hB3
    have H3w : Hid (Below W0.heap.size W0 w3) := H2.out.trans (hB3.mono H2.out.size)
    clear hB3
    obtain ⟨⟨c0, c1, c2⟩, hids, _, _⟩ := HEv.out w3 H3.out
    obtain ⟨A, hA⟩ : ∃ A, headId st.ids x = A := ⟨_, rfl⟩
    obtain ⟨B, hB⟩ : ∃ B, headId st.ids y = B := ⟨_, rfl⟩
    obtain ⟨C, hC⟩ : ∃ C, headId st.ids z = C := ⟨_, rfl⟩
    have hHS : headsG st.ids [x, y, z] = [A, B, C] := by unfold headsG; simp [hA, hB, hC]
    obtain ⟨⟨hAE, hAR, _⟩, hhd⟩ := heads_ids w3 hb st.ids.length ic ia st HNI.out HI2.out.2.1 c2 hids (by have := HI2.out.2.2.1; omega) (some ⟨bx, 0, none⟩) 3 3 [x, y, z] (HIn.out.below H3w.out) (by omega) HA.out.2 [A, B, C] hHS 3 rfl
    have HAR : Hid (∀ u ∈ [A, B, C], 0 ≤ u ∧ u ≤ 18446744073709551615) := hAR
    clear hids c0 c1 c2 hA hB hC hHS hAE hAR
    go_wp2_with fail
    refine hhd.mono ?_
    clear hhd
    rintro e w4 ⟨ha4, hc4, rfl, hI4, hn4, _, hB4⟩
    have H4 : Hid (Below w2.heap.size w2 w4) := H3.out.trans (hB4.mono H3.out.size)
    have HI4 : Hid (Ids w4 ha4 3 [A, B, C]) := hI4
    obtain ⟨bb, bo, hae, hcc⟩ := hI4.2 (by omega)
    subst hae
    obtain ⟨⟨c0, _, _⟩, _, hIS, _⟩ := HEv.out w4 H4.out
    have HOS : Hid (st.os.length ≤ 25) := HI2.out.2.2.2.1
    have hpo := order_any w4 s d st.os _ false F hIS (by have := HOS.out; omega) _ 3 hc4 [A, B, C] hI4 HAR.out hn4 (by omega)
    clear hIS hB4 hI4 hcc
    cases hR : ordG st.os [A, B, C] GS.none with
    | bad er =>
      rw [hR] at hpo
      go_wp2_with fail
      refine hpo.mono ?_
      clear hpo c0
      rintro e w5 ⟨hB5, he5, hne5⟩
      subst he5
      have H5 : Hid (Below w2.heap.size w2 w5) := H4.out.trans (hB5.mono H4.out.size)
      have H5w : Hid (Below w.heap.size w w5) := HB0.out.trans ((H2.out.trans (H5.out.mono H2.out.size)).mono HB0.out.size)
      have z1 : (er == 0) = false := beq_eq_false_iff_ne.2 hne5
      clear hB5
      go_wp2
      go_ret
      exact ⟨rfl, H5w.out⟩
    | ok g =>
      rw [hR] at hpo
      go_wp2_with fail
      refine hpo.mono ?_
      clear hpo c0
      rintro e w5 ⟨hB5, ad5, cp5, he5, hr5⟩
      subst he5
      obtain ⟨_, _, ee, hI5⟩ := own_ids hr5
      cases ee
      have H5 : Hid (Below w2.heap.size w2 w5) := H4.out.trans (hB5.mono H4.out.size)
      have HI5 : Hid (Ids w5 ad5 g.ord.length g.ord ∧ Ids w5 (some ⟨bb, bo, none⟩) 3 [A, B, C]) := ⟨hI5, HI4.out.kept hB5⟩
      have HR : Hid (ordG st.os [A, B, C] GS.none = .ok g) := hR
      have hgl : g.ord.length ≤ 25 := Nat.le_trans (ord_len hR) HOS.out
      have HRng : Hid (∀ u ∈ g.ord, 0 ≤ u ∧ u ≤ 18446744073709551615) := ord_rng hR
      clear hB5 hr5 hI5 hR
      generalize hGL : g.ord.length = GL at *
      have HGL : Hid (g.ord.length = GL) := hGL
      clear hGL
      obtain ⟨D, hD⟩ : ∃ D, depL (pairsO st.os g.ord) (fun _ => 0) = D := ⟨_, rfl⟩
      have HD : Hid ((∀ u ∈ g.ord, ∃ gx, ordG st.os [u] GS.none = .ok gx ∧ depthG st.os gx.ord u = D u) ∧ (∀ u ∈ g.ord, ∀ ps, parsO st.os u = some ps → 1 ≤ D u ∧ (∀ p ∈ ps, D p < D u) ∧ D u ≤ st.os.length) ∧ g.ord.Nodup ∧ ∀ (i : Nat) u, g.ord[i]? = some u → ∃ ps, parsO st.os u = some ps ∧ ∀ p ∈ ps, ∃ j, j < i ∧ g.ord[j]? = some p) := by
        rw [← hD]
        exact ⟨fun u hu => laws_dep HR.out hu, fun u hu ps hp => laws_less HR.out hu hp, (ord_inv HR.out).nd, (ord_inv HR.out).topo⟩
      clear hD
      go_wp2_with fail
      go_loopg [66] GL (fun gg v wr => ∃ i : Nat, i + gg = GL ∧ i ≤ GL ∧ v = .int .i64 (i : Int) ∧ Hid (Below w5.heap.size w5 wr))
      case atStart => exact ⟨0, by omega, Nat.zero_le _, rfl, Below.refl _ _⟩
      case round =>
        obtain ⟨i, hig, hi, rfl, HBr⟩ := hrel
        cases gk with
        | succ go =>
          have hlt : i < GL := by omega
          obtain ⟨u, hu⟩ : ∃ u, g.ord[i]? = some u := ⟨_, List.getElem?_eq_getElem (by rw [HGL.out]; exact hlt)⟩
          have hum := List.mem_of_getElem? hu
          obtain ⟨ps, hps, hpj⟩ := HD.out.2.2.2 i u hu
          obtain ⟨hd1, hd2, hd3⟩ := HD.out.2.1 u hum ps hps
          obtain ⟨gx, hgx, hdx⟩ := HD.out.1 u hum
          have hBr2 := H5.out.trans (HBr.out.mono H5.out.size)
          obtain ⟨⟨c0, _, _⟩, _, hIS, _⟩ := HEv.out wr hBr2
          have hcom := gcom_yes wr s d st.os _ false F hIS u (HRng.out u hum).1 (HRng.out u hum).2 ps hps
          obtain ⟨b1, o1, hoa, hc1⟩ := (HI5.out.1.kept HBr.out).2 (by omega)
          subst hoa
          have q0 := hc1 i u hu
          have HU : Hid (g.ord[i]? = some u ∧ (∀ p ∈ ps, ∃ j, j < i ∧ g.ord[j]? = some p) ∧ ordG st.os [u] GS.none = .ok gx ∧ depthG st.os gx.ord u = D u ∧ (∀ p ∈ ps, D p < D u) ∧ (0 ≤ u ∧ u ≤ 18446744073709551615)) := ⟨hu, hpj, hgx, hdx, hd2, HRng.out u hum⟩
          have i2 : (i : Int) < (GL : Int) := by omega
          have i3 : ¬ GL ≤ i := by omega
          have HJ0 : Hid (i + 1 + go = GL ∧ i + 1 ≤ GL) := ⟨by omega, by omega⟩
          have hd4 : D u ≤ 25 := by have := HOS.out; omega
          clear hc1 hu hum hps hpj hgx hdx hd2 hd3 hBr2 hIS
          go_wp2_with fail
          refine hcom.mono ?_
          clear hcom c0 q0
          rintro e w6 ⟨⟨m, hmi, hmp, he6, hMb⟩, hB6⟩
          subst he6
          have HPr0 : Hid (∀ W, Below w6.heap.size w6 W → Ids W m.pa m.pn ps) := fun W hW => by
            rw [← hmp]
            exact (hMb.par.kept fun k hk => hW.block k hk.2).get
          have hpl8 : m.pn ≤ 8 := by have := hMb.len; omega
          obtain ⟨mid, mt, mpa, mpn, mpc, mau, md, mtx, mps⟩ := m
          simp only at HPr0 hmp hpl8
          have i9 : (mpn : Int) ≤ 9223372036854775807 := by omega
          clear hmi hmp hMb
          obtain ⟨wq, hwq⟩ : ∃ W, w6.alloc (.cells #[.int .u64 mt, .slice mpa mpn mpc, .string mau, .int .i64 md, .string mtx] 55) = W := ⟨_, rfl⟩
          have hBq : Below w6.heap.size w6 wq := by rw [← hwq]; exact (Below.refl _ w6).alloc (Nat.le_refl _) _
          obtain ⟨cb, hcb⟩ : ∃ b, w6.heap.size = b := ⟨_, rfl⟩
          have cP : wq.cell? ⟨cb, 1, none⟩ = some (.slice mpa mpn mpc) := by
            rw [← hwq, ← hcb]
            have h := World.alloc_heap_new w6 (.cells #[.int .u64 mt, .slice mpa mpn mpc, .string mau, .int .i64 md, .string mtx] 55)
            generalize w6.alloc (.cells #[.int .u64 mt, .slice mpa mpn mpc, .string mau, .int .i64 md, .string mtx] 55) = W at h
            simp [World.cell?, h]
          have hcq : cb < wq.heap.size := World.block_lt_of_cell? wq _ cP
          have HcP : Hid (∀ W, Below wq.heap.size wq W → W.cell? ⟨cb, 1, none⟩ = some (.slice mpa mpn mpc)) := fun W hW => (World.cell?_of_block (by exact hW.block cb hcq)).trans cP
          have HW6 : Hid (Below w5.heap.size w5 wq) := (HBr.out.trans (hB6.mono HBr.out.size)).trans (hBq.mono (HBr.out.trans (hB6.mono HBr.out.size)).size)
          have HPr : Hid (∀ W, Below wq.heap.size wq W → Ids W mpa mpn ps) := fun W hW => HPr0.out W (hBq.trans (hW.mono hBq.size))
          clear hB6 hBq cP hcq HPr0
          obtain ⟨⟨c0, _, _⟩, _, hIS, _⟩ := HEv.out wq (H5.out.trans (HW6.out.mono H5.out.size))
          have hde := depth_any wq s d st.os _ false F hIS (by have := HOS.out; omega) u HU.out.2.2.2.2.2
          rw [HU.out.2.2.1] at hde
          clear hIS
          go_wp2_with fail
          refine hde.mono ?_
          clear hde c0 hwq hcb
          rintro e w7 ⟨hB7, he7⟩
          have he7' : e = .returned (.tuple #[.int .i64 (depthG st.os gx.ord u), .int .i64 0]) := he7
          rw [HU.out.2.2.2.1] at he7'
          subst he7'
          clear he7
          have HW7 : Hid (Below w5.heap.size w5 w7) := HW6.out.trans (hB7.mono HW6.out.size)
          have HPr7 : Hid (∀ W, Below w7.heap.size w7 W → Ids W mpa mpn ps) := fun W hW => HPr.out W (hB7.trans (hW.mono hB7.size))
          have HcP7 : Hid (∀ W, Below w7.heap.size w7 W → W.cell? ⟨cb, 1, none⟩ = some (.slice mpa mpn mpc)) := fun W hW => HcP.out W (hB7.trans (hW.mono hB7.size))
          have hpl := place_any w7 (some ⟨b1, o1, none⟩) GL cp5 g.ord (HI5.out.1.kept HW7.out) (by omega) u
          rw [plc_at g.ord i u 0 HD.out.2.2.1 HU.out.1, Int.zero_add] at hpl
          clear hB7 HPr HcP
          have j1 : ¬ D u < 1 := by omega
          generalize hDu : D u = du at *
          have HDu : Hid (D u = du) := hDu
          clear hDu
          go_wp2_with fail
          refine hpl.mono ?_
          clear hpl
          rintro e w8 ⟨rfl, h8⟩
          subst h8
          have cP := HcP7.out w8 (Below.refl _ _)
          have hmpn : mpn = ps.length := (HPr7.out w8 (Below.refl _ _)).1.symm
          go_wp2_with fail
          clear cP
          go_loopg [109] mpn (fun gg v wr => ∃ q : Nat, q + gg = mpn ∧ q ≤ mpn ∧ v = .int .i64 (q : Int) ∧ Hid (Below w8.heap.size w8 wr))
          case atStart => exact ⟨0, by omega, Nat.zero_le _, rfl, Below.refl _ _⟩
          case round =>
            obtain ⟨q, hqg, hq, rfl, HBq⟩ := hrel
            cases gk with
            | succ gp =>
              have hqlt : q < mpn := by omega
              obtain ⟨p, hp⟩ : ∃ p, ps[q]? = some p := ⟨_, List.getElem?_eq_getElem (by omega)⟩
              have hpm := List.mem_of_getElem? hp
              obtain ⟨j, hj, hpj⟩ := HU.out.2.1 p hpm
              have hpg := List.mem_of_getElem? hpj
              obtain ⟨gy, hgy, hdy⟩ := HD.out.1 p hpg
              have hless := HU.out.2.2.2.2.1 p hpm
              have HWr : Hid (Below w5.heap.size w5 wr) := HW7.out.trans (HBq.out.mono HW7.out.size)
              obtain ⟨⟨c0, _, _⟩, _, hIS, _⟩ := HEv.out wr (H5.out.trans (HWr.out.mono H5.out.size))
              have hde := depth_any wr s d st.os _ false F hIS (by have := HOS.out; omega) p (HRng.out p hpg)
              rw [hgy] at hde
              obtain ⟨b2, o2, hpe, hc2⟩ := (HPr7.out wr HBq.out).2 (by omega)
              subst hpe
              have q1 := hc2 q p hp
              have i4 : (q : Int) < (mpn : Int) := by omega
              have i5 : ¬ mpn ≤ q := by omega
              have HJ1 : Hid (q + 1 + gp = mpn ∧ q + 1 ≤ mpn) := ⟨by omega, by omega⟩
              have HP : Hid (g.ord[j]? = some p ∧ depthG st.os gy.ord p = D p) := ⟨hpj, hdy⟩
              clear hIS hc2 hp hpm hpj hpg hgy hdy
              go_wp2_with fail
              refine hde.mono ?_
              clear hde c0 q1
              rintro e w9 ⟨hB9, he9⟩
              have he9' : e = .returned (.tuple #[.int .i64 (depthG st.os gy.ord p), .int .i64 0]) := he9
              rw [HP.out.2] at he9'
              subst he9'
              clear he9
              have HW9 : Hid (Below w8.heap.size w8 w9) := HBq.out.trans (hB9.mono HBq.out.size)
              have hpl := place_any w9 (some ⟨b1, o1, none⟩) GL cp5 g.ord (HI5.out.1.kept (HWr.out.trans (hB9.mono HWr.out.size))) (by omega) p
              rw [plc_at g.ord j p 0 HD.out.2.2.1 HP.out.1, Int.zero_add] at hpl
              have j2 : ¬ (j : Int) < 0 := by omega
              have j3 : ¬ (i : Int) ≤ (j : Int) := by omega
              have j4 : ¬ du ≤ D p := by omega
              clear hB9
              generalize D p = dp at *
              go_wp2_with fail
              refine hpl.mono ?_
              clear hpl
              rintro e w10 ⟨rfl, h10⟩
              subst h10
              go_wp2
              go_roundg gp
              case measure => omega
              case rel => exact ⟨q + 1, HJ1.out.1, HJ1.out.2, by simp, HW9.out⟩
            | zero =>
              obtain rfl : q = mpn := by omega
              have i4 : ¬ (q : Int) < (q : Int) := by omega
              have HWr : Hid (Below w5.heap.size w5 wr) := HW7.out.trans (HBq.out.mono HW7.out.size)
              go_wp2
              go_roundg go
              case measure => omega
              case rel => exact ⟨i + 1, HJ0.out.1, HJ0.out.2, by simp, HWr.out⟩
        | zero =>
          obtain rfl : i = GL := by omega
          have i2 : ¬ (i : Int) < (i : Int) := by omega
          have HW9 : Hid (Below w5.heap.size w5 wr) := HBr.out
          obtain ⟨w9, hw9⟩ : ∃ W : World, W = wr := ⟨_, rfl⟩
          subst hw9
          have hmx : Tryz.prog.follows .mixedOrders = true := by kernel_rfl
          have hAg : A ∈ g.ord := ord_heads HR.out A (by simp)
          have hBg : B ∈ g.ord := ord_heads HR.out B (by simp)
          have hCg : C ∈ g.ord := ord_heads HR.out C (by simp)
          obtain ⟨g1, hg1, ha1⟩ := laws_anc HR.out hAg hBg
          obtain ⟨g2, hg2, ha2⟩ := laws_anc HR.out hBg hCg
          obtain ⟨g3, hg3, ha3⟩ := laws_anc HR.out hAg hCg
          obtain ⟨g4, hg4, ha4'⟩ := laws_anc HR.out hBg hAg
          obtain ⟨hb1, hb2⟩ := laws_bools HR.out hBg ha1 ha2 ha3 ha4'
          have HO : Hid (ordG st.os [A, B] GS.none = .ok g1 ∧ ordG st.os [B, C] GS.none = .ok g2 ∧ ordG st.os [A, C] GS.none = .ok g3 ∧ ordG st.os [B, A] GS.none = .ok g4) := ⟨hg1, hg2, hg3, hg4⟩
          have HRA : Hid ((0 ≤ A ∧ A ≤ 18446744073709551615) ∧ (0 ≤ B ∧ B ≤ 18446744073709551615) ∧ (0 ≤ C ∧ C ≤ 18446744073709551615)) := ⟨HAR.out A (by simp), HAR.out B (by simp), HAR.out C (by simp)⟩
          have HBo : Hid ((decide (0 < linesG st.os g1.ord A B) = true → decide (0 < linesG st.os g2.ord B C) = true → decide (0 < linesG st.os g3.ord A C) = true) ∧ (decide (0 < linesG st.os g1.ord A B) = true → decide (0 < linesG st.os g4.ord B A) = true → A = B)) := ⟨hb1, hb2⟩
          have HT : Hid (∀ W, Below w5.heap.size w5 W → W.cell? ⟨hb, 0, none⟩ = some (.pointer (some ⟨s, 0, none⟩)) ∧ W.cell? ⟨bb, bo, none⟩ = some (.int .u64 A) ∧ W.cell? ⟨bb, bo + 1, none⟩ = some (.int .u64 B) ∧ W.cell? ⟨bb, bo + 2, none⟩ = some (.int .u64 C)) := fun W hW => by
            obtain ⟨_, _, ee, hcc⟩ := (HI5.out.2.kept hW).2 (by omega)
            cases ee
            have h0 := hcc 0 A rfl
            rw [Nat.add_zero] at h0
            exact ⟨(HEv.out W (H5.out.trans (hW.mono H5.out.size))).1.1, h0, hcc 1 B rfl, hcc 2 C rfl⟩
          clear hAg hBg hCg hg1 hg2 hg3 hg4 ha1 ha2 ha3 ha4' hb1 hb2 HBr
          go_wp2_with fail
          clear i2
          refine wp_region_G (S := SB 1000 (fun _ => True) (fun W => W.cell? ⟨hb, 0, none⟩ = some (.pointer (some ⟨s, 0, none⟩)) ∧ W.cell? ⟨bb, bo, none⟩ = some (.int .u64 A) ∧ W.cell? ⟨bb, bo + 1, none⟩ = some (.int .u64 B) ∧ W.cell? ⟨bb, bo + 2, none⟩ = some (.int .u64 C))) hmx ?_
          refine wpAnyG_takeP (i := 0) (v := ?_) rfl (by kernel_rfl) (by kernel_rfl) (by kernel_rfl) (fun _ _ _ h => h) rfl (Or.inl ⟨by rfl, ?_⟩) (SB.off (by kernel_rfl) (HT.out w9 HW9.out)) ?_
          rotate_left
          · intro Y hY; go_simp; try with_reducible rfl
          intro hSB0
          simp only [Act.put, List.getElem_toArray, List.getElem_cons_zero, List.setIfInBounds_toArray, List.set_cons_zero, List.set_cons_succ]
          refine wpAnyG_takeP (i := 1) (v := ?_) rfl (by kernel_rfl) (by kernel_rfl) (by kernel_rfl) (fun _ _ _ h => h) rfl (Or.inl ⟨by rfl, ?_⟩) (by assumption) ?_
          rotate_left
          · intro Y hY; go_simp; try with_reducible rfl
          intro hSB1
          simp only [Act.put, List.getElem_toArray, List.getElem_cons_zero, List.getElem_cons_succ, List.setIfInBounds_toArray, List.set_cons_zero, List.set_cons_succ]
          refine wpAnyG_takeP (i := 2) (v := ?_) rfl (by kernel_rfl) (by kernel_rfl) (by kernel_rfl) (fun _ _ _ h => h) rfl (Or.inl ⟨by rfl, ?_⟩) (by assumption) ?_
          rotate_left
          · intro Y hY; go_simp; try with_reducible rfl
          intro hSB2
          simp only [Act.put, List.getElem_toArray, List.getElem_cons_zero, List.getElem_cons_succ, List.setIfInBounds_toArray, List.set_cons_zero, List.set_cons_succ]
          refine wpAnyG_takeP (i := 3) (v := ?_) rfl (by kernel_rfl) (by kernel_rfl) (by kernel_rfl) (fun _ _ _ h => h) rfl (Or.inl ⟨by rfl, ?_⟩) (by assumption) ?_
          rotate_left
          · intro Y hY; obtain ⟨f1, f2, f3, f4⟩ := hY; go_simp; try with_reducible rfl
          intro hSB3
          simp only [Act.put, List.getElem_toArray, List.getElem_cons_zero, List.getElem_cons_succ, List.setIfInBounds_toArray, List.set_cons_zero, List.set_cons_succ]
          refine wpAnyG_takeP (i := 4) (v := ?_) rfl (by kernel_rfl) (by kernel_rfl) (by kernel_rfl) (fun _ _ _ h => h) rfl (Or.inl ⟨by rfl, ?_⟩) (by assumption) ?_
          rotate_left
          · intro Y hY; go_simp; try with_reducible rfl
          intro hSB4
          simp only [Act.put, List.getElem_toArray, List.getElem_cons_zero, List.getElem_cons_succ, List.setIfInBounds_toArray, List.set_cons_zero, List.set_cons_succ]
          refine wpAnyG_takeP (i := 5) (v := ?_) rfl (by kernel_rfl) (by kernel_rfl) (by kernel_rfl) (fun _ _ _ h => h) rfl (Or.inl ⟨by rfl, ?_⟩) (by assumption) ?_
          rotate_left
          · intro Y hY; go_simp; try with_reducible rfl
          intro hSB5
          simp only [Act.put, List.getElem_toArray, List.getElem_cons_zero, List.getElem_cons_succ, List.setIfInBounds_toArray, List.set_cons_zero, List.set_cons_succ]
          refine wpAnyG_takeP (i := 6) (v := ?_) rfl (by kernel_rfl) (by kernel_rfl) (by kernel_rfl) (fun _ _ _ h => h) rfl (Or.inl ⟨by rfl, ?_⟩) (by assumption) ?_
          rotate_left
          · intro Y hY; obtain ⟨f1, f2, f3, f4⟩ := hY; go_simp; try with_reducible rfl
          intro hSB6
          simp only [Act.put, List.getElem_toArray, List.getElem_cons_zero, List.getElem_cons_succ, List.setIfInBounds_toArray, List.set_cons_zero, List.set_cons_succ]
          refine wpAnyG_takeP (i := 7) (v := ?_) rfl (by kernel_rfl) (by kernel_rfl) (by kernel_rfl) (fun _ _ _ h => h) rfl (Or.inl ⟨by rfl, ?_⟩) (by assumption) ?_
          rotate_left
          · intro Y hY; go_simp; try with_reducible rfl
          intro hSB7
          simp only [Act.put, List.getElem_toArray, List.getElem_cons_zero, List.getElem_cons_succ, List.setIfInBounds_toArray, List.set_cons_zero, List.set_cons_succ]
          refine wpAnyG_takeP (i := 8) (v := ?_) rfl (by kernel_rfl) (by kernel_rfl) (by kernel_rfl) (fun _ _ _ h => h) rfl (Or.inl ⟨by rfl, ?_⟩) (by assumption) ?_
          rotate_left
          · intro Y hY; go_simp; try with_reducible rfl
          intro hSB8
          simp only [Act.put, List.getElem_toArray, List.getElem_cons_zero, List.getElem_cons_succ, List.setIfInBounds_toArray, List.set_cons_zero, List.set_cons_succ]
          refine wpAnyG_takeP (i := 9) (v := ?_) rfl (by kernel_rfl) (by kernel_rfl) (by kernel_rfl) (fun _ _ _ h => h) rfl (Or.inl ⟨by rfl, ?_⟩) (by assumption) ?_
          rotate_left
          · intro Y hY; obtain ⟨f1, f2, f3, f4⟩ := hY; go_simp; try with_reducible rfl
          intro hSB9
          simp only [Act.put, List.getElem_toArray, List.getElem_cons_zero, List.getElem_cons_succ, List.setIfInBounds_toArray, List.set_cons_zero, List.set_cons_succ]
          obtain ⟨_, _, hIS, _⟩ := HEv.out w9.drew (H5.out.trans ((below_drewN HW9.out 1 : Below w5.heap.size w5 w9.drew).mono H5.out.size))
          have hca := ancestor_any w9.drew s d st.os _ false F hIS (by have := HOS.out; omega) A B HRA.out.1 HRA.out.2.1
          rw [HO.out.1] at hca
          have hca2 : Calls Tryz.prog 11 #[.pointer (some ⟨s, 0, none⟩), .int .u64 A, .int .u64 B] w9.drew fun e w' => ∃ v, e = .returned v ∧ v = .tuple #[.bool (decide (0 < linesG st.os g1.ord A B)), .int .i64 0] ∧ Below w5.heap.size w5 w' := hca.mono fun e w' ⟨hB, he⟩ => ⟨_, he, rfl, HW9.out.trans ((show Below w9.heap.size w9 w' from ⟨hB.os, hB.tape, hB.output, hB.size, hB.block⟩).mono HW9.out.size)⟩
          clear hIS hca
          refine wpAnyG_one (i := 10) (by kernel_rfl) rfl (fun K hK => ?_)
          refine step_ancestor _ (by rfl) _ _ _ _ _ _ (by rfl) _ _ _ (by rfl) (by rfl) (by rfl) _ hca2 ?_
          rintro v w10 ⟨rfl, hB10⟩
          have HW10 : Hid (Below w5.heap.size w5 w10) := hB10
          refine hK.out _ _ (SB.off (by kernel_rfl) (HT.out w10 hB10)) (fun hSB10 => ?_)
          clear hK K hca2 hB10
          simp only [Act.put, List.getElem_toArray, List.getElem_cons_zero, List.getElem_cons_succ, List.setIfInBounds_toArray, List.set_cons_zero, List.set_cons_succ]
          refine wpAnyG_takeP (i := 11) (v := ?_) rfl (by kernel_rfl) (by kernel_rfl) (by kernel_rfl) (fun _ _ _ h => h) rfl (Or.inl ⟨by rfl, ?_⟩) (by assumption) ?_
          rotate_left
          · intro Y hY; go_simp; try with_reducible rfl
          intro hSB11
          simp only [Act.put, List.getElem_toArray, List.getElem_cons_zero, List.getElem_cons_succ, List.setIfInBounds_toArray, List.set_cons_zero, List.set_cons_succ]
          refine wpAnyG_takeP (i := 12) (v := ?_) rfl (by kernel_rfl) (by kernel_rfl) (by kernel_rfl) (fun _ _ _ h => h) rfl (Or.inl ⟨by rfl, ?_⟩) (by assumption) ?_
          rotate_left
          · intro Y hY; go_simp; try with_reducible rfl
          intro hSB12
          simp only [Act.put, List.getElem_toArray, List.getElem_cons_zero, List.getElem_cons_succ, List.setIfInBounds_toArray, List.set_cons_zero, List.set_cons_succ]
          refine wpAnyG_takeP (i := 13) (v := ?_) rfl (by kernel_rfl) (by kernel_rfl) (by kernel_rfl) (fun _ _ _ h => h) rfl (Or.inl ⟨by rfl, ?_⟩) (by assumption) ?_
          rotate_left
          · intro Y hY; go_simp; try with_reducible rfl
          intro hSB13
          simp only [Act.put, List.getElem_toArray, List.getElem_cons_zero, List.getElem_cons_succ, List.setIfInBounds_toArray, List.set_cons_zero, List.set_cons_succ]
          refine wpAnyG_takeP (i := 14) (v := ?_) rfl (by kernel_rfl) (by kernel_rfl) (by kernel_rfl) (fun _ _ _ h => h) rfl (Or.inl ⟨by rfl, ?_⟩) (by assumption) ?_
          rotate_left
          · intro Y hY; go_simp; try with_reducible rfl
          intro hSB14
          simp only [Act.put, List.getElem_toArray, List.getElem_cons_zero, List.getElem_cons_succ, List.setIfInBounds_toArray, List.set_cons_zero, List.set_cons_succ]
          refine wpAnyG_takeP (i := 15) (v := ?_) rfl (by kernel_rfl) (by kernel_rfl) (by kernel_rfl) (fun _ _ _ h => h) rfl (Or.inl ⟨by rfl, ?_⟩) (by assumption) ?_
          rotate_left
          · intro Y hY; go_simp; try with_reducible rfl
          intro hSB15
          simp only [Act.put, List.getElem_toArray, List.getElem_cons_zero, List.getElem_cons_succ, List.setIfInBounds_toArray, List.set_cons_zero, List.set_cons_succ]
          refine wpAnyG_done (by kernel_rfl) ?_ _
          clear hSB0 hSB1 hSB2 hSB3 hSB4 hSB5 hSB6 hSB7 hSB8 hSB9 hSB10 hSB11 hSB12 hSB13 hSB14 hSB15
          go_wp2_with fail
          refine wp_region_G (S := SB 1000 (fun _ => True) (fun W => W.cell? ⟨hb, 0, none⟩ = some (.pointer (some ⟨s, 0, none⟩)) ∧ W.cell? ⟨bb, bo, none⟩ = some (.int .u64 A) ∧ W.cell? ⟨bb, bo + 1, none⟩ = some (.int .u64 B) ∧ W.cell? ⟨bb, bo + 2, none⟩ = some (.int .u64 C))) hmx ?_
          refine wpAnyG_takeP (i := 0) (v := ?_) rfl (by kernel_rfl) (by kernel_rfl) (by kernel_rfl) (fun _ _ _ h => h) rfl (Or.inl ⟨by rfl, ?_⟩) (SB.off (by kernel_rfl) (HT.out w10 HW10.out)) ?_
          rotate_left
          · intro Y hY; go_simp; try with_reducible rfl
          intro hSB0
          simp only [Act.put, List.getElem_toArray, List.getElem_cons_zero, List.setIfInBounds_toArray, List.set_cons_zero, List.set_cons_succ]
          refine wpAnyG_takeP (i := 1) (v := ?_) rfl (by kernel_rfl) (by kernel_rfl) (by kernel_rfl) (fun _ _ _ h => h) rfl (Or.inl ⟨by rfl, ?_⟩) (by assumption) ?_
          rotate_left
          · intro Y hY; go_simp; try with_reducible rfl
          intro hSB1
          simp only [Act.put, List.getElem_toArray, List.getElem_cons_zero, List.getElem_cons_succ, List.setIfInBounds_toArray, List.set_cons_zero, List.set_cons_succ]
          refine wpAnyG_takeP (i := 2) (v := ?_) rfl (by kernel_rfl) (by kernel_rfl) (by kernel_rfl) (fun _ _ _ h => h) rfl (Or.inl ⟨by rfl, ?_⟩) (by assumption) ?_
          rotate_left
          · intro Y hY; go_simp; try with_reducible rfl
          intro hSB2
          simp only [Act.put, List.getElem_toArray, List.getElem_cons_zero, List.getElem_cons_succ, List.setIfInBounds_toArray, List.set_cons_zero, List.set_cons_succ]
          refine wpAnyG_takeP (i := 3) (v := ?_) rfl (by kernel_rfl) (by kernel_rfl) (by kernel_rfl) (fun _ _ _ h => h) rfl (Or.inl ⟨by rfl, ?_⟩) (by assumption) ?_
          rotate_left
          · intro Y hY; obtain ⟨f1, f2, f3, f4⟩ := hY; go_simp; try with_reducible rfl
          intro hSB3
          simp only [Act.put, List.getElem_toArray, List.getElem_cons_zero, List.getElem_cons_succ, List.setIfInBounds_toArray, List.set_cons_zero, List.set_cons_succ]
          refine wpAnyG_takeP (i := 4) (v := ?_) rfl (by kernel_rfl) (by kernel_rfl) (by kernel_rfl) (fun _ _ _ h => h) rfl (Or.inl ⟨by rfl, ?_⟩) (by assumption) ?_
          rotate_left
          · intro Y hY; go_simp; try with_reducible rfl
          intro hSB4
          simp only [Act.put, List.getElem_toArray, List.getElem_cons_zero, List.getElem_cons_succ, List.setIfInBounds_toArray, List.set_cons_zero, List.set_cons_succ]
          refine wpAnyG_takeP (i := 5) (v := ?_) rfl (by kernel_rfl) (by kernel_rfl) (by kernel_rfl) (fun _ _ _ h => h) rfl (Or.inl ⟨by rfl, ?_⟩) (by assumption) ?_
          rotate_left
          · intro Y hY; go_simp; try with_reducible rfl
          intro hSB5
          simp only [Act.put, List.getElem_toArray, List.getElem_cons_zero, List.getElem_cons_succ, List.setIfInBounds_toArray, List.set_cons_zero, List.set_cons_succ]
          refine wpAnyG_takeP (i := 6) (v := ?_) rfl (by kernel_rfl) (by kernel_rfl) (by kernel_rfl) (fun _ _ _ h => h) rfl (Or.inl ⟨by rfl, ?_⟩) (by assumption) ?_
          rotate_left
          · intro Y hY; obtain ⟨f1, f2, f3, f4⟩ := hY; go_simp; try with_reducible rfl
          intro hSB6
          simp only [Act.put, List.getElem_toArray, List.getElem_cons_zero, List.getElem_cons_succ, List.setIfInBounds_toArray, List.set_cons_zero, List.set_cons_succ]
          refine wpAnyG_takeP (i := 7) (v := ?_) rfl (by kernel_rfl) (by kernel_rfl) (by kernel_rfl) (fun _ _ _ h => h) rfl (Or.inl ⟨by rfl, ?_⟩) (by assumption) ?_
          rotate_left
          · intro Y hY; go_simp; try with_reducible rfl
          intro hSB7
          simp only [Act.put, List.getElem_toArray, List.getElem_cons_zero, List.getElem_cons_succ, List.setIfInBounds_toArray, List.set_cons_zero, List.set_cons_succ]
          refine wpAnyG_takeP (i := 8) (v := ?_) rfl (by kernel_rfl) (by kernel_rfl) (by kernel_rfl) (fun _ _ _ h => h) rfl (Or.inl ⟨by rfl, ?_⟩) (by assumption) ?_
          rotate_left
          · intro Y hY; go_simp; try with_reducible rfl
          intro hSB8
          simp only [Act.put, List.getElem_toArray, List.getElem_cons_zero, List.getElem_cons_succ, List.setIfInBounds_toArray, List.set_cons_zero, List.set_cons_succ]
          refine wpAnyG_takeP (i := 9) (v := ?_) rfl (by kernel_rfl) (by kernel_rfl) (by kernel_rfl) (fun _ _ _ h => h) rfl (Or.inl ⟨by rfl, ?_⟩) (by assumption) ?_
          rotate_left
          · intro Y hY; obtain ⟨f1, f2, f3, f4⟩ := hY; go_simp; try with_reducible rfl
          intro hSB9
          simp only [Act.put, List.getElem_toArray, List.getElem_cons_zero, List.getElem_cons_succ, List.setIfInBounds_toArray, List.set_cons_zero, List.set_cons_succ]
          obtain ⟨_, _, hIS, _⟩ := HEv.out w10.drew (H5.out.trans ((below_drewN HW10.out 1 : Below w5.heap.size w5 w10.drew).mono H5.out.size))
          have hca := ancestor_any w10.drew s d st.os _ false F hIS (by have := HOS.out; omega) B C HRA.out.2.1 HRA.out.2.2
          rw [HO.out.2.1] at hca
          have hca2 : Calls Tryz.prog 11 #[.pointer (some ⟨s, 0, none⟩), .int .u64 B, .int .u64 C] w10.drew fun e w' => ∃ v, e = .returned v ∧ v = .tuple #[.bool (decide (0 < linesG st.os g2.ord B C)), .int .i64 0] ∧ Below w5.heap.size w5 w' := hca.mono fun e w' ⟨hB, he⟩ => ⟨_, he, rfl, HW10.out.trans ((show Below w10.heap.size w10 w' from ⟨hB.os, hB.tape, hB.output, hB.size, hB.block⟩).mono HW10.out.size)⟩
          clear hIS hca
          refine wpAnyG_one (i := 10) (by kernel_rfl) rfl (fun K hK => ?_)
          refine step_ancestor _ (by rfl) _ _ _ _ _ _ (by rfl) _ _ _ (by rfl) (by rfl) (by rfl) _ hca2 ?_
          rintro v w11 ⟨rfl, hB11⟩
          have HW11 : Hid (Below w5.heap.size w5 w11) := hB11
          refine hK.out _ _ (SB.off (by kernel_rfl) (HT.out w11 hB11)) (fun hSB10 => ?_)
          clear hK K hca2 hB11
          simp only [Act.put, List.getElem_toArray, List.getElem_cons_zero, List.getElem_cons_succ, List.setIfInBounds_toArray, List.set_cons_zero, List.set_cons_succ]
          refine wpAnyG_takeP (i := 11) (v := ?_) rfl (by kernel_rfl) (by kernel_rfl) (by kernel_rfl) (fun _ _ _ h => h) rfl (Or.inl ⟨by rfl, ?_⟩) (by assumption) ?_
          rotate_left
          · intro Y hY; go_simp; try with_reducible rfl
          intro hSB11
          simp only [Act.put, List.getElem_toArray, List.getElem_cons_zero, List.getElem_cons_succ, List.setIfInBounds_toArray, List.set_cons_zero, List.set_cons_succ]
          refine wpAnyG_takeP (i := 12) (v := ?_) rfl (by kernel_rfl) (by kernel_rfl) (by kernel_rfl) (fun _ _ _ h => h) rfl (Or.inl ⟨by rfl, ?_⟩) (by assumption) ?_
          rotate_left
          · intro Y hY; go_simp; try with_reducible rfl
          intro hSB12
          simp only [Act.put, List.getElem_toArray, List.getElem_cons_zero, List.getElem_cons_succ, List.setIfInBounds_toArray, List.set_cons_zero, List.set_cons_succ]
          refine wpAnyG_takeP (i := 13) (v := ?_) rfl (by kernel_rfl) (by kernel_rfl) (by kernel_rfl) (fun _ _ _ h => h) rfl (Or.inl ⟨by rfl, ?_⟩) (by assumption) ?_
          rotate_left
          · intro Y hY; go_simp; try with_reducible rfl
          intro hSB13
          simp only [Act.put, List.getElem_toArray, List.getElem_cons_zero, List.getElem_cons_succ, List.setIfInBounds_toArray, List.set_cons_zero, List.set_cons_succ]
          refine wpAnyG_takeP (i := 14) (v := ?_) rfl (by kernel_rfl) (by kernel_rfl) (by kernel_rfl) (fun _ _ _ h => h) rfl (Or.inl ⟨by rfl, ?_⟩) (by assumption) ?_
          rotate_left
          · intro Y hY; go_simp; try with_reducible rfl
          intro hSB14
          simp only [Act.put, List.getElem_toArray, List.getElem_cons_zero, List.getElem_cons_succ, List.setIfInBounds_toArray, List.set_cons_zero, List.set_cons_succ]
          refine wpAnyG_takeP (i := 15) (v := ?_) rfl (by kernel_rfl) (by kernel_rfl) (by kernel_rfl) (fun _ _ _ h => h) rfl (Or.inl ⟨by rfl, ?_⟩) (by assumption) ?_
          rotate_left
          · intro Y hY; go_simp; try with_reducible rfl
          intro hSB15
          simp only [Act.put, List.getElem_toArray, List.getElem_cons_zero, List.getElem_cons_succ, List.setIfInBounds_toArray, List.set_cons_zero, List.set_cons_succ]
          refine wpAnyG_done (by kernel_rfl) ?_ _
          clear hSB0 hSB1 hSB2 hSB3 hSB4 hSB5 hSB6 hSB7 hSB8 hSB9 hSB10 hSB11 hSB12 hSB13 hSB14 hSB15
          go_wp2_with fail
          refine wp_region_G (S := SB 1000 (fun _ => True) (fun W => W.cell? ⟨hb, 0, none⟩ = some (.pointer (some ⟨s, 0, none⟩)) ∧ W.cell? ⟨bb, bo, none⟩ = some (.int .u64 A) ∧ W.cell? ⟨bb, bo + 1, none⟩ = some (.int .u64 B) ∧ W.cell? ⟨bb, bo + 2, none⟩ = some (.int .u64 C))) hmx ?_
          refine wpAnyG_takeP (i := 0) (v := ?_) rfl (by kernel_rfl) (by kernel_rfl) (by kernel_rfl) (fun _ _ _ h => h) rfl (Or.inl ⟨by rfl, ?_⟩) (SB.off (by kernel_rfl) (HT.out w11 HW11.out)) ?_
          rotate_left
          · intro Y hY; go_simp; try with_reducible rfl
          intro hSB0
          simp only [Act.put, List.getElem_toArray, List.getElem_cons_zero, List.setIfInBounds_toArray, List.set_cons_zero, List.set_cons_succ]
          refine wpAnyG_takeP (i := 1) (v := ?_) rfl (by kernel_rfl) (by kernel_rfl) (by kernel_rfl) (fun _ _ _ h => h) rfl (Or.inl ⟨by rfl, ?_⟩) (by assumption) ?_
          rotate_left
          · intro Y hY; go_simp; try with_reducible rfl
          intro hSB1
          simp only [Act.put, List.getElem_toArray, List.getElem_cons_zero, List.getElem_cons_succ, List.setIfInBounds_toArray, List.set_cons_zero, List.set_cons_succ]
          refine wpAnyG_takeP (i := 2) (v := ?_) rfl (by kernel_rfl) (by kernel_rfl) (by kernel_rfl) (fun _ _ _ h => h) rfl (Or.inl ⟨by rfl, ?_⟩) (by assumption) ?_
          rotate_left
          · intro Y hY; go_simp; try with_reducible rfl
          intro hSB2
          simp only [Act.put, List.getElem_toArray, List.getElem_cons_zero, List.getElem_cons_succ, List.setIfInBounds_toArray, List.set_cons_zero, List.set_cons_succ]
          refine wpAnyG_takeP (i := 3) (v := ?_) rfl (by kernel_rfl) (by kernel_rfl) (by kernel_rfl) (fun _ _ _ h => h) rfl (Or.inl ⟨by rfl, ?_⟩) (by assumption) ?_
          rotate_left
          · intro Y hY; obtain ⟨f1, f2, f3, f4⟩ := hY; go_simp; try with_reducible rfl
          intro hSB3
          simp only [Act.put, List.getElem_toArray, List.getElem_cons_zero, List.getElem_cons_succ, List.setIfInBounds_toArray, List.set_cons_zero, List.set_cons_succ]
          refine wpAnyG_takeP (i := 4) (v := ?_) rfl (by kernel_rfl) (by kernel_rfl) (by kernel_rfl) (fun _ _ _ h => h) rfl (Or.inl ⟨by rfl, ?_⟩) (by assumption) ?_
          rotate_left
          · intro Y hY; go_simp; try with_reducible rfl
          intro hSB4
          simp only [Act.put, List.getElem_toArray, List.getElem_cons_zero, List.getElem_cons_succ, List.setIfInBounds_toArray, List.set_cons_zero, List.set_cons_succ]
          refine wpAnyG_takeP (i := 5) (v := ?_) rfl (by kernel_rfl) (by kernel_rfl) (by kernel_rfl) (fun _ _ _ h => h) rfl (Or.inl ⟨by rfl, ?_⟩) (by assumption) ?_
          rotate_left
          · intro Y hY; go_simp; try with_reducible rfl
          intro hSB5
          simp only [Act.put, List.getElem_toArray, List.getElem_cons_zero, List.getElem_cons_succ, List.setIfInBounds_toArray, List.set_cons_zero, List.set_cons_succ]
          refine wpAnyG_takeP (i := 6) (v := ?_) rfl (by kernel_rfl) (by kernel_rfl) (by kernel_rfl) (fun _ _ _ h => h) rfl (Or.inl ⟨by rfl, ?_⟩) (by assumption) ?_
          rotate_left
          · intro Y hY; obtain ⟨f1, f2, f3, f4⟩ := hY; go_simp; try with_reducible rfl
          intro hSB6
          simp only [Act.put, List.getElem_toArray, List.getElem_cons_zero, List.getElem_cons_succ, List.setIfInBounds_toArray, List.set_cons_zero, List.set_cons_succ]
          refine wpAnyG_takeP (i := 7) (v := ?_) rfl (by kernel_rfl) (by kernel_rfl) (by kernel_rfl) (fun _ _ _ h => h) rfl (Or.inl ⟨by rfl, ?_⟩) (by assumption) ?_
          rotate_left
          · intro Y hY; go_simp; try with_reducible rfl
          intro hSB7
          simp only [Act.put, List.getElem_toArray, List.getElem_cons_zero, List.getElem_cons_succ, List.setIfInBounds_toArray, List.set_cons_zero, List.set_cons_succ]
          refine wpAnyG_takeP (i := 8) (v := ?_) rfl (by kernel_rfl) (by kernel_rfl) (by kernel_rfl) (fun _ _ _ h => h) rfl (Or.inl ⟨by rfl, ?_⟩) (by assumption) ?_
          rotate_left
          · intro Y hY; go_simp; try with_reducible rfl
          intro hSB8
          simp only [Act.put, List.getElem_toArray, List.getElem_cons_zero, List.getElem_cons_succ, List.setIfInBounds_toArray, List.set_cons_zero, List.set_cons_succ]
          refine wpAnyG_takeP (i := 9) (v := ?_) rfl (by kernel_rfl) (by kernel_rfl) (by kernel_rfl) (fun _ _ _ h => h) rfl (Or.inl ⟨by rfl, ?_⟩) (by assumption) ?_
          rotate_left
          · intro Y hY; obtain ⟨f1, f2, f3, f4⟩ := hY; go_simp; try with_reducible rfl
          intro hSB9
          simp only [Act.put, List.getElem_toArray, List.getElem_cons_zero, List.getElem_cons_succ, List.setIfInBounds_toArray, List.set_cons_zero, List.set_cons_succ]
          obtain ⟨_, _, hIS, _⟩ := HEv.out w11.drew (H5.out.trans ((below_drewN HW11.out 1 : Below w5.heap.size w5 w11.drew).mono H5.out.size))
          have hca := ancestor_any w11.drew s d st.os _ false F hIS (by have := HOS.out; omega) A C HRA.out.1 HRA.out.2.2
          rw [HO.out.2.2.1] at hca
          have hca2 : Calls Tryz.prog 11 #[.pointer (some ⟨s, 0, none⟩), .int .u64 A, .int .u64 C] w11.drew fun e w' => ∃ v, e = .returned v ∧ v = .tuple #[.bool (decide (0 < linesG st.os g3.ord A C)), .int .i64 0] ∧ Below w5.heap.size w5 w' := hca.mono fun e w' ⟨hB, he⟩ => ⟨_, he, rfl, HW11.out.trans ((show Below w11.heap.size w11 w' from ⟨hB.os, hB.tape, hB.output, hB.size, hB.block⟩).mono HW11.out.size)⟩
          clear hIS hca
          refine wpAnyG_one (i := 10) (by kernel_rfl) rfl (fun K hK => ?_)
          refine step_ancestor _ (by rfl) _ _ _ _ _ _ (by rfl) _ _ _ (by rfl) (by rfl) (by rfl) _ hca2 ?_
          rintro v w12 ⟨rfl, hB12⟩
          have HW12 : Hid (Below w5.heap.size w5 w12) := hB12
          refine hK.out _ _ (SB.off (by kernel_rfl) (HT.out w12 hB12)) (fun hSB10 => ?_)
          clear hK K hca2 hB12
          simp only [Act.put, List.getElem_toArray, List.getElem_cons_zero, List.getElem_cons_succ, List.setIfInBounds_toArray, List.set_cons_zero, List.set_cons_succ]
          refine wpAnyG_takeP (i := 11) (v := ?_) rfl (by kernel_rfl) (by kernel_rfl) (by kernel_rfl) (fun _ _ _ h => h) rfl (Or.inl ⟨by rfl, ?_⟩) (by assumption) ?_
          rotate_left
          · intro Y hY; go_simp; try with_reducible rfl
          intro hSB11
          simp only [Act.put, List.getElem_toArray, List.getElem_cons_zero, List.getElem_cons_succ, List.setIfInBounds_toArray, List.set_cons_zero, List.set_cons_succ]
          refine wpAnyG_takeP (i := 12) (v := ?_) rfl (by kernel_rfl) (by kernel_rfl) (by kernel_rfl) (fun _ _ _ h => h) rfl (Or.inl ⟨by rfl, ?_⟩) (by assumption) ?_
          rotate_left
          · intro Y hY; go_simp; try with_reducible rfl
          intro hSB12
          simp only [Act.put, List.getElem_toArray, List.getElem_cons_zero, List.getElem_cons_succ, List.setIfInBounds_toArray, List.set_cons_zero, List.set_cons_succ]
          refine wpAnyG_takeP (i := 13) (v := ?_) rfl (by kernel_rfl) (by kernel_rfl) (by kernel_rfl) (fun _ _ _ h => h) rfl (Or.inl ⟨by rfl, ?_⟩) (by assumption) ?_
          rotate_left
          · intro Y hY; go_simp; try with_reducible rfl
          intro hSB13
          simp only [Act.put, List.getElem_toArray, List.getElem_cons_zero, List.getElem_cons_succ, List.setIfInBounds_toArray, List.set_cons_zero, List.set_cons_succ]
          refine wpAnyG_takeP (i := 14) (v := ?_) rfl (by kernel_rfl) (by kernel_rfl) (by kernel_rfl) (fun _ _ _ h => h) rfl (Or.inl ⟨by rfl, ?_⟩) (by assumption) ?_
          rotate_left
          · intro Y hY; go_simp; try with_reducible rfl
          intro hSB14
          simp only [Act.put, List.getElem_toArray, List.getElem_cons_zero, List.getElem_cons_succ, List.setIfInBounds_toArray, List.set_cons_zero, List.set_cons_succ]
          refine wpAnyG_takeP (i := 15) (v := ?_) rfl (by kernel_rfl) (by kernel_rfl) (by kernel_rfl) (fun _ _ _ h => h) rfl (Or.inl ⟨by rfl, ?_⟩) (by assumption) ?_
          rotate_left
          · intro Y hY; go_simp; try with_reducible rfl
          intro hSB15
          simp only [Act.put, List.getElem_toArray, List.getElem_cons_zero, List.getElem_cons_succ, List.setIfInBounds_toArray, List.set_cons_zero, List.set_cons_succ]
          refine wpAnyG_done (by kernel_rfl) ?_ _
          clear hSB0 hSB1 hSB2 hSB3 hSB4 hSB5 hSB6 hSB7 hSB8 hSB9 hSB10 hSB11 hSB12 hSB13 hSB14 hSB15
          go_wp2_with fail
          refine wp_region_G (S := SB 1000 (fun _ => True) (fun W => W.cell? ⟨hb, 0, none⟩ = some (.pointer (some ⟨s, 0, none⟩)) ∧ W.cell? ⟨bb, bo, none⟩ = some (.int .u64 A) ∧ W.cell? ⟨bb, bo + 1, none⟩ = some (.int .u64 B) ∧ W.cell? ⟨bb, bo + 2, none⟩ = some (.int .u64 C))) hmx ?_
          refine wpAnyG_takeP (i := 0) (v := ?_) rfl (by kernel_rfl) (by kernel_rfl) (by kernel_rfl) (fun _ _ _ h => h) rfl (Or.inl ⟨by rfl, ?_⟩) (SB.off (by kernel_rfl) (HT.out w12 HW12.out)) ?_
          rotate_left
          · intro Y hY; go_simp; try with_reducible rfl
          intro hSB0
          simp only [Act.put, List.getElem_toArray, List.getElem_cons_zero, List.setIfInBounds_toArray, List.set_cons_zero, List.set_cons_succ]
          refine wpAnyG_takeP (i := 1) (v := ?_) rfl (by kernel_rfl) (by kernel_rfl) (by kernel_rfl) (fun _ _ _ h => h) rfl (Or.inl ⟨by rfl, ?_⟩) (by assumption) ?_
          rotate_left
          · intro Y hY; go_simp; try with_reducible rfl
          intro hSB1
          simp only [Act.put, List.getElem_toArray, List.getElem_cons_zero, List.getElem_cons_succ, List.setIfInBounds_toArray, List.set_cons_zero, List.set_cons_succ]
          refine wpAnyG_takeP (i := 2) (v := ?_) rfl (by kernel_rfl) (by kernel_rfl) (by kernel_rfl) (fun _ _ _ h => h) rfl (Or.inl ⟨by rfl, ?_⟩) (by assumption) ?_
          rotate_left
          · intro Y hY; go_simp; try with_reducible rfl
          intro hSB2
          simp only [Act.put, List.getElem_toArray, List.getElem_cons_zero, List.getElem_cons_succ, List.setIfInBounds_toArray, List.set_cons_zero, List.set_cons_succ]
          refine wpAnyG_takeP (i := 3) (v := ?_) rfl (by kernel_rfl) (by kernel_rfl) (by kernel_rfl) (fun _ _ _ h => h) rfl (Or.inl ⟨by rfl, ?_⟩) (by assumption) ?_
          rotate_left
          · intro Y hY; obtain ⟨f1, f2, f3, f4⟩ := hY; go_simp; try with_reducible rfl
          intro hSB3
          simp only [Act.put, List.getElem_toArray, List.getElem_cons_zero, List.getElem_cons_succ, List.setIfInBounds_toArray, List.set_cons_zero, List.set_cons_succ]
          refine wpAnyG_takeP (i := 4) (v := ?_) rfl (by kernel_rfl) (by kernel_rfl) (by kernel_rfl) (fun _ _ _ h => h) rfl (Or.inl ⟨by rfl, ?_⟩) (by assumption) ?_
          rotate_left
          · intro Y hY; go_simp; try with_reducible rfl
          intro hSB4
          simp only [Act.put, List.getElem_toArray, List.getElem_cons_zero, List.getElem_cons_succ, List.setIfInBounds_toArray, List.set_cons_zero, List.set_cons_succ]
          refine wpAnyG_takeP (i := 5) (v := ?_) rfl (by kernel_rfl) (by kernel_rfl) (by kernel_rfl) (fun _ _ _ h => h) rfl (Or.inl ⟨by rfl, ?_⟩) (by assumption) ?_
          rotate_left
          · intro Y hY; go_simp; try with_reducible rfl
          intro hSB5
          simp only [Act.put, List.getElem_toArray, List.getElem_cons_zero, List.getElem_cons_succ, List.setIfInBounds_toArray, List.set_cons_zero, List.set_cons_succ]
          refine wpAnyG_takeP (i := 6) (v := ?_) rfl (by kernel_rfl) (by kernel_rfl) (by kernel_rfl) (fun _ _ _ h => h) rfl (Or.inl ⟨by rfl, ?_⟩) (by assumption) ?_
          rotate_left
          · intro Y hY; obtain ⟨f1, f2, f3, f4⟩ := hY; go_simp; try with_reducible rfl
          intro hSB6
          simp only [Act.put, List.getElem_toArray, List.getElem_cons_zero, List.getElem_cons_succ, List.setIfInBounds_toArray, List.set_cons_zero, List.set_cons_succ]
          refine wpAnyG_takeP (i := 7) (v := ?_) rfl (by kernel_rfl) (by kernel_rfl) (by kernel_rfl) (fun _ _ _ h => h) rfl (Or.inl ⟨by rfl, ?_⟩) (by assumption) ?_
          rotate_left
          · intro Y hY; go_simp; try with_reducible rfl
          intro hSB7
          simp only [Act.put, List.getElem_toArray, List.getElem_cons_zero, List.getElem_cons_succ, List.setIfInBounds_toArray, List.set_cons_zero, List.set_cons_succ]
          refine wpAnyG_takeP (i := 8) (v := ?_) rfl (by kernel_rfl) (by kernel_rfl) (by kernel_rfl) (fun _ _ _ h => h) rfl (Or.inl ⟨by rfl, ?_⟩) (by assumption) ?_
          rotate_left
          · intro Y hY; go_simp; try with_reducible rfl
          intro hSB8
          simp only [Act.put, List.getElem_toArray, List.getElem_cons_zero, List.getElem_cons_succ, List.setIfInBounds_toArray, List.set_cons_zero, List.set_cons_succ]
          refine wpAnyG_takeP (i := 9) (v := ?_) rfl (by kernel_rfl) (by kernel_rfl) (by kernel_rfl) (fun _ _ _ h => h) rfl (Or.inl ⟨by rfl, ?_⟩) (by assumption) ?_
          rotate_left
          · intro Y hY; obtain ⟨f1, f2, f3, f4⟩ := hY; go_simp; try with_reducible rfl
          intro hSB9
          simp only [Act.put, List.getElem_toArray, List.getElem_cons_zero, List.getElem_cons_succ, List.setIfInBounds_toArray, List.set_cons_zero, List.set_cons_succ]
          obtain ⟨_, _, hIS, _⟩ := HEv.out w12.drew (H5.out.trans ((below_drewN HW12.out 1 : Below w5.heap.size w5 w12.drew).mono H5.out.size))
          have hca := ancestor_any w12.drew s d st.os _ false F hIS (by have := HOS.out; omega) B A HRA.out.2.1 HRA.out.1
          rw [HO.out.2.2.2] at hca
          have hca2 : Calls Tryz.prog 11 #[.pointer (some ⟨s, 0, none⟩), .int .u64 B, .int .u64 A] w12.drew fun e w' => ∃ v, e = .returned v ∧ v = .tuple #[.bool (decide (0 < linesG st.os g4.ord B A)), .int .i64 0] ∧ Below w5.heap.size w5 w' := hca.mono fun e w' ⟨hB, he⟩ => ⟨_, he, rfl, HW12.out.trans ((show Below w12.heap.size w12 w' from ⟨hB.os, hB.tape, hB.output, hB.size, hB.block⟩).mono HW12.out.size)⟩
          clear hIS hca
          refine wpAnyG_one (i := 10) (by kernel_rfl) rfl (fun K hK => ?_)
          refine step_ancestor _ (by rfl) _ _ _ _ _ _ (by rfl) _ _ _ (by rfl) (by rfl) (by rfl) _ hca2 ?_
          rintro v w13 ⟨rfl, hB13⟩
          have HW13 : Hid (Below w5.heap.size w5 w13) := hB13
          refine hK.out _ _ (SB.off (by kernel_rfl) (HT.out w13 hB13)) (fun hSB10 => ?_)
          clear hK K hca2 hB13
          simp only [Act.put, List.getElem_toArray, List.getElem_cons_zero, List.getElem_cons_succ, List.setIfInBounds_toArray, List.set_cons_zero, List.set_cons_succ]
          refine wpAnyG_takeP (i := 11) (v := ?_) rfl (by kernel_rfl) (by kernel_rfl) (by kernel_rfl) (fun _ _ _ h => h) rfl (Or.inl ⟨by rfl, ?_⟩) (by assumption) ?_
          rotate_left
          · intro Y hY; go_simp; try with_reducible rfl
          intro hSB11
          simp only [Act.put, List.getElem_toArray, List.getElem_cons_zero, List.getElem_cons_succ, List.setIfInBounds_toArray, List.set_cons_zero, List.set_cons_succ]
          refine wpAnyG_takeP (i := 12) (v := ?_) rfl (by kernel_rfl) (by kernel_rfl) (by kernel_rfl) (fun _ _ _ h => h) rfl (Or.inl ⟨by rfl, ?_⟩) (by assumption) ?_
          rotate_left
          · intro Y hY; go_simp; try with_reducible rfl
          intro hSB12
          simp only [Act.put, List.getElem_toArray, List.getElem_cons_zero, List.getElem_cons_succ, List.setIfInBounds_toArray, List.set_cons_zero, List.set_cons_succ]
          refine wpAnyG_takeP (i := 13) (v := ?_) rfl (by kernel_rfl) (by kernel_rfl) (by kernel_rfl) (fun _ _ _ h => h) rfl (Or.inl ⟨by rfl, ?_⟩) (by assumption) ?_
          rotate_left
          · intro Y hY; go_simp; try with_reducible rfl
          intro hSB13
          simp only [Act.put, List.getElem_toArray, List.getElem_cons_zero, List.getElem_cons_succ, List.setIfInBounds_toArray, List.set_cons_zero, List.set_cons_succ]
          refine wpAnyG_takeP (i := 14) (v := ?_) rfl (by kernel_rfl) (by kernel_rfl) (by kernel_rfl) (fun _ _ _ h => h) rfl (Or.inl ⟨by rfl, ?_⟩) (by assumption) ?_
          rotate_left
          · intro Y hY; go_simp; try with_reducible rfl
          intro hSB14
          simp only [Act.put, List.getElem_toArray, List.getElem_cons_zero, List.getElem_cons_succ, List.setIfInBounds_toArray, List.set_cons_zero, List.set_cons_succ]
          refine wpAnyG_takeP (i := 15) (v := ?_) rfl (by kernel_rfl) (by kernel_rfl) (by kernel_rfl) (fun _ _ _ h => h) rfl (Or.inl ⟨by rfl, ?_⟩) (by assumption) ?_
          rotate_left
          · intro Y hY; go_simp; try with_reducible rfl
          intro hSB15
          simp only [Act.put, List.getElem_toArray, List.getElem_cons_zero, List.getElem_cons_succ, List.setIfInBounds_toArray, List.set_cons_zero, List.set_cons_succ]
          refine wpAnyG_done (by kernel_rfl) ?_ _
          clear hSB0 hSB1 hSB2 hSB3 hSB4 hSB5 hSB6 hSB7 hSB8 hSB9 hSB10 hSB11 hSB12 hSB13 hSB14 hSB15
          go_wp2_with fail
          refine wp_region_G (S := SB 1000 (fun _ => True) (fun W => W.cell? ⟨hb, 0, none⟩ = some (.pointer (some ⟨s, 0, none⟩)) ∧ W.cell? ⟨bb, bo, none⟩ = some (.int .u64 A) ∧ W.cell? ⟨bb, bo + 1, none⟩ = some (.int .u64 B) ∧ W.cell? ⟨bb, bo + 2, none⟩ = some (.int .u64 C))) hmx ?_
          refine wpAnyG_takeP (i := 0) (v := ?_) rfl (by kernel_rfl) (by kernel_rfl) (by kernel_rfl) (fun _ _ _ h => h) rfl (Or.inl ⟨by rfl, ?_⟩) (SB.off (by kernel_rfl) (HT.out w13 HW13.out)) ?_
          rotate_left
          · intro Y hY; go_simp; try with_reducible rfl
          intro hSB0
          simp only [Act.put, List.getElem_toArray, List.getElem_cons_zero, List.setIfInBounds_toArray, List.set_cons_zero, List.set_cons_succ]
          refine wpAnyG_takeP (i := 1) (v := ?_) rfl (by kernel_rfl) (by kernel_rfl) (by kernel_rfl) (fun _ _ _ h => h) rfl (Or.inl ⟨by rfl, ?_⟩) (by assumption) ?_
          rotate_left
          · intro Y hY; go_simp; try with_reducible rfl
          intro hSB1
          simp only [Act.put, List.getElem_toArray, List.getElem_cons_zero, List.getElem_cons_succ, List.setIfInBounds_toArray, List.set_cons_zero, List.set_cons_succ]
          refine wpAnyG_takeP (i := 2) (v := ?_) rfl (by kernel_rfl) (by kernel_rfl) (by kernel_rfl) (fun _ _ _ h => h) rfl (Or.inl ⟨by rfl, ?_⟩) (by assumption) ?_
          rotate_left
          · intro Y hY; go_simp; try with_reducible rfl
          intro hSB2
          simp only [Act.put, List.getElem_toArray, List.getElem_cons_zero, List.getElem_cons_succ, List.setIfInBounds_toArray, List.set_cons_zero, List.set_cons_succ]
          refine wpAnyG_takeP (i := 3) (v := ?_) rfl (by kernel_rfl) (by kernel_rfl) (by kernel_rfl) (fun _ _ _ h => h) rfl (Or.inl ⟨by rfl, ?_⟩) (by assumption) ?_
          rotate_left
          · intro Y hY; obtain ⟨f1, f2, f3, f4⟩ := hY; go_simp; try with_reducible rfl
          intro hSB3
          simp only [Act.put, List.getElem_toArray, List.getElem_cons_zero, List.getElem_cons_succ, List.setIfInBounds_toArray, List.set_cons_zero, List.set_cons_succ]
          refine wpAnyG_takeP (i := 4) (v := ?_) rfl (by kernel_rfl) (by kernel_rfl) (by kernel_rfl) (fun _ _ _ h => h) rfl (Or.inl ⟨by rfl, ?_⟩) (by assumption) ?_
          rotate_left
          · intro Y hY; go_simp; try with_reducible rfl
          intro hSB4
          simp only [Act.put, List.getElem_toArray, List.getElem_cons_zero, List.getElem_cons_succ, List.setIfInBounds_toArray, List.set_cons_zero, List.set_cons_succ]
          refine wpAnyG_takeP (i := 5) (v := ?_) rfl (by kernel_rfl) (by kernel_rfl) (by kernel_rfl) (fun _ _ _ h => h) rfl (Or.inl ⟨by rfl, ?_⟩) (by assumption) ?_
          rotate_left
          · intro Y hY; go_simp; try with_reducible rfl
          intro hSB5
          simp only [Act.put, List.getElem_toArray, List.getElem_cons_zero, List.getElem_cons_succ, List.setIfInBounds_toArray, List.set_cons_zero, List.set_cons_succ]
          refine wpAnyG_takeP (i := 6) (v := ?_) rfl (by kernel_rfl) (by kernel_rfl) (by kernel_rfl) (fun _ _ _ h => h) rfl (Or.inl ⟨by rfl, ?_⟩) (by assumption) ?_
          rotate_left
          · intro Y hY; obtain ⟨f1, f2, f3, f4⟩ := hY; go_simp; try with_reducible rfl
          intro hSB6
          simp only [Act.put, List.getElem_toArray, List.getElem_cons_zero, List.getElem_cons_succ, List.setIfInBounds_toArray, List.set_cons_zero, List.set_cons_succ]
          refine wpAnyG_takeP (i := 7) (v := ?_) rfl (by kernel_rfl) (by kernel_rfl) (by kernel_rfl) (fun _ _ _ h => h) rfl (Or.inl ⟨by rfl, ?_⟩) (by assumption) ?_
          rotate_left
          · intro Y hY; go_simp; try with_reducible rfl
          intro hSB7
          simp only [Act.put, List.getElem_toArray, List.getElem_cons_zero, List.getElem_cons_succ, List.setIfInBounds_toArray, List.set_cons_zero, List.set_cons_succ]
          refine wpAnyG_takeP (i := 8) (v := ?_) rfl (by kernel_rfl) (by kernel_rfl) (by kernel_rfl) (fun _ _ _ h => h) rfl (Or.inl ⟨by rfl, ?_⟩) (by assumption) ?_
          rotate_left
          · intro Y hY; go_simp; try with_reducible rfl
          intro hSB8
          simp only [Act.put, List.getElem_toArray, List.getElem_cons_zero, List.getElem_cons_succ, List.setIfInBounds_toArray, List.set_cons_zero, List.set_cons_succ]
          refine wpAnyG_takeP (i := 9) (v := ?_) rfl (by kernel_rfl) (by kernel_rfl) (by kernel_rfl) (fun _ _ _ h => h) rfl (Or.inl ⟨by rfl, ?_⟩) (by assumption) ?_
          rotate_left
          · intro Y hY; obtain ⟨f1, f2, f3, f4⟩ := hY; go_simp; try with_reducible rfl
          intro hSB9
          simp only [Act.put, List.getElem_toArray, List.getElem_cons_zero, List.getElem_cons_succ, List.setIfInBounds_toArray, List.set_cons_zero, List.set_cons_succ]
          obtain ⟨_, _, hIS, _⟩ := HEv.out w13.drew (H5.out.trans ((below_drewN HW13.out 1 : Below w5.heap.size w5 w13.drew).mono H5.out.size))
          have hca := lines_any w13.drew s d st.os _ false F hIS (by have := HOS.out; omega) A B HRA.out.1 HRA.out.2.1
          rw [HO.out.1] at hca
          have hca2 : Calls Tryz.prog 12 #[.pointer (some ⟨s, 0, none⟩), .int .u64 A, .int .u64 B] w13.drew fun e w' => ∃ v, e = .returned v ∧ v = .tuple #[.int .i64 (linesG st.os g1.ord A B), .int .i64 0] ∧ Below w5.heap.size w5 w' := hca.mono fun e w' ⟨hB, he⟩ => ⟨_, he, rfl, HW13.out.trans ((show Below w13.heap.size w13 w' from ⟨hB.os, hB.tape, hB.output, hB.size, hB.block⟩).mono HW13.out.size)⟩
          clear hIS hca
          refine wpAnyG_one (i := 10) (by kernel_rfl) rfl (fun K hK => ?_)
          refine step_lines _ (by rfl) _ _ _ _ _ _ (by rfl) _ _ _ (by rfl) (by rfl) (by rfl) _ hca2 ?_
          rintro v w14 ⟨rfl, hB14⟩
          have HW14 : Hid (Below w5.heap.size w5 w14) := hB14
          refine hK.out _ _ (SB.off (by kernel_rfl) (HT.out w14 hB14)) (fun hSB10 => ?_)
          clear hK K hca2 hB14
          simp only [Act.put, List.getElem_toArray, List.getElem_cons_zero, List.getElem_cons_succ, List.setIfInBounds_toArray, List.set_cons_zero, List.set_cons_succ]
          refine wpAnyG_takeP (i := 11) (v := ?_) rfl (by kernel_rfl) (by kernel_rfl) (by kernel_rfl) (fun _ _ _ h => h) rfl (Or.inl ⟨by rfl, ?_⟩) (by assumption) ?_
          rotate_left
          · intro Y hY; go_simp; try with_reducible rfl
          intro hSB11
          simp only [Act.put, List.getElem_toArray, List.getElem_cons_zero, List.getElem_cons_succ, List.setIfInBounds_toArray, List.set_cons_zero, List.set_cons_succ]
          refine wpAnyG_takeP (i := 12) (v := ?_) rfl (by kernel_rfl) (by kernel_rfl) (by kernel_rfl) (fun _ _ _ h => h) rfl (Or.inl ⟨by rfl, ?_⟩) (by assumption) ?_
          rotate_left
          · intro Y hY; go_simp; try with_reducible rfl
          intro hSB12
          simp only [Act.put, List.getElem_toArray, List.getElem_cons_zero, List.getElem_cons_succ, List.setIfInBounds_toArray, List.set_cons_zero, List.set_cons_succ]
          refine wpAnyG_takeP (i := 13) (v := ?_) rfl (by kernel_rfl) (by kernel_rfl) (by kernel_rfl) (fun _ _ _ h => h) rfl (Or.inl ⟨by rfl, ?_⟩) (by assumption) ?_
          rotate_left
          · intro Y hY; go_simp; try with_reducible rfl
          intro hSB13
          simp only [Act.put, List.getElem_toArray, List.getElem_cons_zero, List.getElem_cons_succ, List.setIfInBounds_toArray, List.set_cons_zero, List.set_cons_succ]
          refine wpAnyG_takeP (i := 14) (v := ?_) rfl (by kernel_rfl) (by kernel_rfl) (by kernel_rfl) (fun _ _ _ h => h) rfl (Or.inl ⟨by rfl, ?_⟩) (by assumption) ?_
          rotate_left
          · intro Y hY; go_simp; try with_reducible rfl
          intro hSB14
          simp only [Act.put, List.getElem_toArray, List.getElem_cons_zero, List.getElem_cons_succ, List.setIfInBounds_toArray, List.set_cons_zero, List.set_cons_succ]
          refine wpAnyG_takeP (i := 15) (v := ?_) rfl (by kernel_rfl) (by kernel_rfl) (by kernel_rfl) (fun _ _ _ h => h) rfl (Or.inl ⟨by rfl, ?_⟩) (by assumption) ?_
          rotate_left
          · intro Y hY; go_simp; try with_reducible rfl
          intro hSB15
          simp only [Act.put, List.getElem_toArray, List.getElem_cons_zero, List.getElem_cons_succ, List.setIfInBounds_toArray, List.set_cons_zero, List.set_cons_succ]
          refine wpAnyG_done (by kernel_rfl) ?_ _
          clear hSB0 hSB1 hSB2 hSB3 hSB4 hSB5 hSB6 hSB7 hSB8 hSB9 hSB10 hSB11 hSB12 hSB13 hSB14 hSB15
          go_wp2_with fail
          obtain ⟨t1, t2, t3, t4⟩ := HT.out w14 HW14.out
          have HF : Hid (Below w.heap.size w w14) := HB0.out.trans ((H2.out.trans ((H5.out.trans (HW14.out.mono H5.out.size)).mono H2.out.size)).mono HB0.out.size)
          have HFn : Hid (∀ k, Below w.heap.size w (w14.drewN k)) := fun k => below_drewN HF.out k
          have hbo := HBo.out
          generalize linesG st.os g1.ord A B = n1 at *
          generalize decide (0 < linesG st.os g2.ord B C) = b2 at *
          generalize decide (0 < linesG st.os g3.ord A C) = b3 at *
          generalize decide (0 < linesG st.os g4.ord B A) = b4 at *
          clear HBo HO HT HEv HI5 HI4 HD HR HRng HAR HRA HNI HI2 HA HIn H1 H2 H3 H3w H4 H5 HW9 HW10 HW11 HW12 HW13 HW14 HOS HGL
          by_cases p1 : 0 < n1
          · have p2 : decide (0 < n1) = true := by simpa using p1
            rw [p2] at hbo ⊢
            cases b2 with
            | true =>
              have hb3 := hbo.1 rfl rfl
              subst hb3
              cases b4 with
              | true =>
                have hAB := hbo.2 rfl rfl
                subst hAB
                clear hbo
                go_quiet (fail)
                go_wp2
                go_ret
                exact ⟨rfl, HFn.out _⟩
              | false =>
                clear hbo
                go_quiet (fail)
                go_wp2
                go_ret
                exact ⟨rfl, HFn.out _⟩
            | false =>
              cases b4 with
              | true =>
                have hAB := hbo.2 rfl rfl
                subst hAB
                clear hbo
                go_quiet (fail)
                go_wp2
                go_ret
                exact ⟨rfl, HFn.out _⟩
              | false =>
                clear hbo
                go_quiet (fail)
                go_wp2
                go_ret
                exact ⟨rfl, HFn.out _⟩
          · have p2 : decide (0 < n1) = false := by simpa using p1
            rw [p2] at hbo ⊢
            clear hbo
            go_quiet (fail)
            go_wp2
            go_ret
            exact ⟨rfl, HFn.out _⟩
end Go.Proofs.YtojpbemfbjkjjaaGreat
