import Derived.Test.YtncagdfbgpdhfaaGreatQ48
/- The walk of the law ParentsLeast (genleast.py). -/
namespace Go.Proofs.YtncagdfbgpdhfaaGreat
open Go.RowKit Go.Maps

attribute [local go_sem] Oper.semAt_some

set_option maxRecDepth 100000 in
set_option maxHeartbeats 8000000 in
theorem parentsLeast_walk (w : World) (a : Option Addr) (n c : Nat) (l : List BornD) (hl : Brs12 w a n l) (hn : n ≤ 9223372036854775807) (ha : Option Addr) (hn2 hc : Nat) (hl2 : List Int) (hh : Ints w ha hn2 hl2) (hhn : hn2 ≤ 9223372036854775807) (hhr : ∀ x ∈ hl2, -9223372036854775808 ≤ x ∧ x ≤ 9223372036854775807) :
    Calls Tryz.prog 6 #[.slice a n c, .slice ha hn2 hc] w fun e w' => e = .returned (.bool true) ∧ Below w.heap.size w w' := by
  have hw1 := wakes12_any w
  have HA : Hid (Brs12 w a n l ∧ Ints w ha hn2 hl2 ∧ ∀ x ∈ hl2, -9223372036854775808 ≤ x ∧ x ≤ 9223372036854775807) := ⟨hl, hh, hhr⟩
  clear hl hh hhr
  cases hG : bornQ l with
  | none =>
    go_enter Tryz.func6, Tryz.ntmps6
    go_wp2_with fail
    refine hw1.mono ?_
    clear hw1
    rintro e w1 ⟨rfl, hB1⟩
    have hbo := born12_any w1 a n c l (HA.out.1.below hB1) hn
    rw [hG] at hbo
    have H1 : Hid (Below w.heap.size w w1) := hB1
    clear hB1
    go_wp2_with fail
    refine hbo.mono ?_
    clear hbo
    rintro e w2 ⟨hB2, he⟩
    have he' : e = .returned (.tuple #[.pointer none, .bool false]) := he
    subst he'
    have H2 : Hid (Below w.heap.size w w2) := H1.out.trans (hB2.mono H1.out.size)
    clear hB2 he
    have hw3 := wakes12_any w2
    go_wp2_with fail
    refine hw3.mono ?_
    clear hw3
    rintro e w3 ⟨rfl, hB3⟩
    have H3 : Hid (Below w.heap.size w w3) := H2.out.trans (hB3.mono H2.out.size)
    clear hB3
    go_wp2
    go_ret
    exact ⟨rfl, H3.out⟩
  | some st =>
    go_enter Tryz.func6, Tryz.ntmps6
    go_wp2_with fail
    refine hw1.mono ?_
    clear hw1
    rintro e w1 ⟨rfl, hB1⟩
    have hbo := born12_any w1 a n c l (HA.out.1.below hB1) hn
    rw [hG] at hbo
    have H1 : Hid (Below w.heap.size w w1) := hB1
    clear hB1 hG
    go_wp2_with fail
    refine hbo.mono ?_
    clear hbo
    rintro e w2 ⟨hB2, hb, s, d, S, F, G, X, nv, iv, ns, he, hI, ho5, hi5, hn5⟩
    subst he
    have H2 : Hid (Below w.heap.size w w2) := H1.out.trans (hB2.mono H1.out.size)
    obtain ⟨ia, ic, hiv, hEnv⟩ := hI.env
    have HI2 : Hid (Ok12 st ∧ st.ids.length ≤ 20 ∧ st.os.length ≤ 65536) := ⟨hI.ok, hi5, by omega⟩
    have HEv : Hid (∀ W, Below w2.heap.size w2 W → (W.cell? ⟨hb, 0, none⟩ = some (.pointer (some ⟨s, 0, none⟩)) ∧ W.cell? ⟨hb, 2, none⟩ = some (.slice ia st.ids.length ic)) ∧ Ids W ia st.ids.length st.ids ∧ IsSt W s d st.os (fileB (st.os.map obB)).length false F) := hEnv
    clear hB2 hI hi5 ho5 hn5 hEnv hiv
    obtain ⟨⟨c0, c2⟩, hids, _⟩ := HEv.out w2 (Below.refl _ _)
    have hso := some12_any w2 hb st.ids.length ic ia st.ids c2 hids (by have := HI2.out.2.1; omega) ha hn2 hc hl2 (HA.out.2.1.below H2.out) hhn HA.out.2.2
    have HL : Hid (∀ x ∈ someG st.ids hl2, 0 ≤ x ∧ x ≤ 18446744073709551615) := someG_rng (fun i hi => (HI2.out.1.rng i hi).2) hl2
    have hLl := someG_len st.ids hl2
    generalize someG st.ids hl2 = L at *
    generalize hLL : L.length = nL at *
    have HLL : Hid (L.length = nL) := hLL
    clear hLL hids c2 c0
    go_wp2_with fail
    refine hso.mono ?_
    clear hso
    rintro e w3 ⟨la, lc, rfl, hrow3, hB3⟩
    have H3 : Hid (Below w2.heap.size w2 w3) := hB3
    obtain ⟨_, _, ee, hlc, _⟩ := row_shapeN hrow3
    cases ee
    obtain ⟨_, _, ee, hI3⟩ := own_idsG hrow3
    cases ee
    have HLI : Hid (Ids w3 la nL L) := hI3
    obtain ⟨⟨c0, _⟩, _, hIS⟩ := HEv.out w3 H3.out
    clear hrow3 hB3
    cases hR : ordG st.os L GS.none with
    | bad er =>
      have her := ord_bad hR
      have hre := reduce_err w3 (some ⟨s, 0, none⟩) la nL lc L hI3 HL.out (by omega) er her (fun W' hW' => by
        obtain ⟨_, _, hIS⟩ := HEv.out W' (H3.out.trans (hW'.mono H3.out.size))
        have h := order_any W' s d st.os _ false F hIS HI2.out.2.2 la nL lc L (HLI.out.kept hW') HL.out hlc (by omega)
        rw [hR] at h
        exact h.mono fun e w' hh => ⟨hh.2.1, hh.1⟩)
      have her2 : (er == 0) = false := beq_eq_false_iff_ne.2 her
      clear hIS hI3 hR her
      go_wp2_with fail
      refine hre.mono ?_
      clear hre
      rintro e w4 ⟨rfl, hB4⟩
      have H4 : Hid (Below w.heap.size w w4) := H2.out.trans ((H3.out.trans (hB4.mono H3.out.size)).mono H2.out.size)
      have hw4 := wakes12_any w4
      clear hB4 c0
      go_wp2_with fail
      refine hw4.mono ?_
      clear hw4
      rintro e w5 ⟨rfl, hB5⟩
      have H5 : Hid (Below w.heap.size w w5) := H4.out.trans (hB5.mono H4.out.size)
      clear hB5
      go_wp2
      go_ret
      exact ⟨rfl, H5.out⟩
    | ok g =>
      have hre := reduce_ok w3 s d st.os _ false F hIS HI2.out.2.2 la nL lc L hI3 HL.out hlc (by omega) g hR
      have HF : Hid (LF st.os L (redP st.os g L)) := least_facts hR HL.out
      have hRl : (redP st.os g L).length ≤ 10 := by have h1 := HF.out.len; have h2 := HLL.out; omega
      clear hIS hI3 hR
      generalize redP st.os g L = R at *
      generalize hRR : R.length = nR at *
      have HRR : Hid (R.length = nR) := hRR
      clear hRR
      go_wp2_with fail
      refine hre.mono ?_
      clear hre c0
      rintro e w4 ⟨⟨ra, rc, rfl, hrow4⟩, hB4⟩
      have H4 : Hid (Below w2.heap.size w2 w4) := H3.out.trans (hB4.mono H3.out.size)
      obtain ⟨_, _, ee, hrc, _⟩ := row_shapeN hrow4
      cases ee
      obtain ⟨_, _, ee, hI4⟩ := own_idsG hrow4
      cases ee
      have HRI : Hid (Ids w4 ra nR R) := hI4
      have HLI4 : Hid (Ids w4 la nL L) := HLI.out.kept hB4
      obtain ⟨⟨c0, _⟩, _, hIS⟩ := HEv.out w4 H4.out
      obtain ⟨g2, hg2, hr2⟩ := HF.out.again
      have hre := reduce_ok w4 s d st.os _ false F hIS HI2.out.2.2 ra nR rc R hI4 HF.out.rng hrc (by omega) g2 hg2
      rw [hr2, HRR.out] at hre
      clear hrow4 hB4 hIS hg2 hr2 hI4
      go_wp2_with fail
      refine hre.mono ?_
      clear hre c0
      rintro e w5 ⟨⟨sa, sc, rfl, hrow5⟩, hB5⟩
      have H5 : Hid (Below w2.heap.size w2 w5) := H4.out.trans (hB5.mono H4.out.size)
      obtain ⟨_, _, ee, hI5⟩ := own_idsG hrow5
      cases ee
      have HRI5 : Hid (Ids w5 ra nR R) := HRI.out.kept hB5
      have HLI5 : Hid (Ids w5 la nL L) := HLI4.out.kept hB5
      have hsm := same12_any w5 sa ra nR nR sc rc R R hI5 HRI5.out (by omega) (by omega)
      rw [beq_self_eq_true] at hsm
      clear hrow5 hB5 hI5
      go_wp2_with fail
      refine hsm.mono ?_
      clear hsm
      rintro e w6 ⟨rfl, hB6⟩
      have H6 : Hid (Below w2.heap.size w2 w6) := H5.out.trans (hB6.mono H5.out.size)
      have HRI6 : Hid (Ids w6 ra nR R) := HRI5.out.kept hB6
      have HLI6 : Hid (Ids w6 la nL L) := HLI5.out.kept hB6
      clear hB6
      go_wp2
      go_loopw [77] (fun v wr => ∃ i : Nat, i ≤ nR ∧ v = .int .i64 (i : Int) ∧ Hid (Below w6.heap.size w6 wr)) (fun v _ => nR - (intOf v).toNat)
      case atStart => exact ⟨0, Nat.zero_le _, rfl, Below.refl _ _⟩
      case round =>
        obtain ⟨i, hi, rfl, HB⟩ := hrel
        by_cases hlt : i < nR
        · obtain ⟨x, hx⟩ : ∃ x, R[i]? = some x := ⟨_, List.getElem?_eq_getElem (by have := HRR.out; omega)⟩
          obtain ⟨rb, ro, rfl, hrc1⟩ := (HRI6.out.kept HB.out).2 (by omega)
          have q0 := hrc1 i x hx
          have HX : Hid (R[i]? = some x) := hx
          have i2 : (i : Int) < (nR : Int) := by omega
          have i3 : ¬ nR ≤ i := by omega
          clear hrc1 hx
          go_wp2
          clear q0
          go_loopw [84] (fun v wq => ∃ k : Nat, k ≤ nR ∧ v = .int .i64 (k : Int) ∧ Hid (Below w6.heap.size w6 wq)) (fun v _ => nR - (intOf v).toNat)
          case atStart => exact ⟨0, Nat.zero_le _, rfl, HB.out⟩
          case round =>
            obtain ⟨k, hk, rfl, HB2⟩ := hrel
            by_cases hkt : k < nR
            · obtain ⟨y, hy⟩ : ∃ y, R[k]? = some y := ⟨_, List.getElem?_eq_getElem (by have := HRR.out; omega)⟩
              obtain ⟨_, _, ee, hrc1⟩ := (HRI6.out.kept HB2.out).2 (by omega)
              cases ee
              have q1 := hrc1 k y hy
              obtain ⟨⟨c0, _⟩, _, hIS⟩ := HEv.out _ (H6.out.trans (HB2.out.mono H6.out.size))
              have han := anc_call _ s d st.os _ false F hIS HI2.out.2.2 HF.out HL.out (HF.out.sub x (List.mem_of_getElem? HX.out)) (List.mem_of_getElem? hy) (decide (i = k)) (by rw [decide_eq_true_iff]; exact (HF.out.beside i k x y HX.out hy).symm)
              have j2 : (k : Int) < (nR : Int) := by omega
              have j3 : ¬ nR ≤ k := by omega
              clear hrc1 hy hIS
              by_cases hik : i = k
              · subst hik
                rw [decide_eq_true rfl] at han
                go_wp2_with (go_at_call 24; refine han.mono ?_; clear han; rintro e w7 ⟨rfl, hB7⟩; have H7 : Hid (Below w6.heap.size w6 w7) := HB2.out.trans (hB7.mono HB2.out.size); clear hB7)
                go_roundw
                case rel => exact ⟨i + 1, by omega, by simp, H7.out⟩
                case measure => simp [intOf]; omega
              · rw [decide_eq_false hik] at han
                have hik2 : ((i : Int) == (k : Int)) = false := beq_eq_false_iff_ne.2 (by omega)
                have hik3 : ¬ (i : Int) = (k : Int) := by omega
                go_wp2_with (go_at_call 24; refine han.mono ?_; clear han; rintro e w7 ⟨rfl, hB7⟩; have H7 : Hid (Below w6.heap.size w6 w7) := HB2.out.trans (hB7.mono HB2.out.size); clear hB7)
                go_roundw
                case rel => exact ⟨k + 1, by omega, by simp, H7.out⟩
                case measure => simp [intOf]; omega
            · obtain rfl : k = nR := by omega
              have j2 : ¬ (k : Int) < (k : Int) := by omega
              have hha := has12_any _ la nL lc L (HLI6.out.kept HB2.out) (by omega) x
              rw [show L.contains x = true by simpa using HF.out.sub x (List.mem_of_getElem? HX.out)] at hha
              go_wp2_with (go_at_call 25; refine hha.mono ?_; clear hha; rintro e w7 ⟨rfl, hw7⟩; subst hw7)
              go_roundw
              case rel => exact ⟨i + 1, by omega, by simp, HB2.out⟩
              case measure => simp [intOf]; omega
        · obtain rfl : i = nR := by omega
          have i2 : ¬ (i : Int) < (i : Int) := by omega
          have H7 : Hid (Below w2.heap.size w2 wr) := H6.out.trans (HB.out.mono H6.out.size)
          have HRI7 : Hid (Ids wr ra i R) := HRI6.out.kept HB.out
          have HLI7 : Hid (Ids wr la nL L) := HLI6.out.kept HB.out
          clear HB
          generalize wr = w7 at *
          go_wp2
          clear i2
          go_loopw [116] (fun v wr => ∃ i : Nat, i ≤ nL ∧ v = .int .i64 (i : Int) ∧ Hid (Below w7.heap.size w7 wr)) (fun v _ => nL - (intOf v).toNat)
          case atStart => exact ⟨0, Nat.zero_le _, rfl, Below.refl _ _⟩
          case round =>
            obtain ⟨j, hj, rfl, HB⟩ := hrel
            by_cases hjt : j < nL
            · obtain ⟨x, hx⟩ : ∃ x, L[j]? = some x := ⟨_, List.getElem?_eq_getElem (by have := HLL.out; omega)⟩
              obtain ⟨lb, lo, rfl, hlc1⟩ := (HLI7.out.kept HB.out).2 (by omega)
              have q0 := hlc1 j x hx
              have HX : Hid (x ∈ L) := List.mem_of_getElem? hx
              have i2 : (j : Int) < (nL : Int) := by omega
              have i3 : ¬ nL ≤ j := by omega
              clear hlc1 hx
              go_wp2
              clear q0
              go_loopw [19, 122] (fun f v wq => ∃ (k : Nat) (b : Bool), k ≤ i ∧ f = .bool b ∧ v = .int .i64 (k : Int) ∧ Hid (b = (R.take k).any (ancB st.os x) ∧ Below w7.heap.size w7 wq)) (fun _ v _ => i - (intOf v).toNat)
              case atStart => exact ⟨0, false, Nat.zero_le _, rfl, rfl, by simp, HB.out⟩
              case round =>
                obtain ⟨k, b1, hk, rfl, rfl, HB2⟩ := hrel
                by_cases hkt : k < i
                · obtain ⟨y, hy⟩ : ∃ y, R[k]? = some y := ⟨_, List.getElem?_eq_getElem (by have := HRR.out; omega)⟩
                  obtain ⟨rb, ro, rfl, hrc1⟩ := (HRI7.out.kept HB2.out.2).2 (by omega)
                  have q1 := hrc1 k y hy
                  obtain ⟨⟨c0, _⟩, _, hIS⟩ := HEv.out _ (H7.out.trans (HB2.out.2.mono H7.out.size))
                  obtain ⟨b2, hb2⟩ : ∃ b, b = ancB st.os x y := ⟨_, rfl⟩
                  have han := anc_call _ s d st.os _ false F hIS HI2.out.2.2 HF.out HL.out HX.out (List.mem_of_getElem? hy) b2 (by rw [hb2]; exact ancB_iff _ _ _)
                  have HN : Hid ((b1 || b2) = (R.take (k + 1)).any (ancB st.os x)) := by show _ = _; rw [led_step hy, HB2.out.1, hb2]
                  have j2 : (k : Int) < (i : Int) := by omega
                  have j3 : ¬ i ≤ k := by omega
                  clear hrc1 hy hIS hb2
                  cases b1 <;> cases b2
                  all_goals
                    go_wp2_with (go_at_call 24; refine han.mono ?_; clear han; rintro e w8 ⟨rfl, hB8⟩; have H8 : Hid (Below w7.heap.size w7 w8) := HB2.out.2.trans (hB8.mono HB2.out.2.size); clear hB8)
                    go_roundw
                    case rel => exact ⟨k + 1, _, by omega, rfl, by simp, HN.out, H8.out⟩
                    case measure => simp [intOf]; omega
                · obtain rfl : k = i := by omega
                  have j2 : ¬ (k : Int) < (k : Int) := by omega
                  have hb1 : b1 = true := by
                    rw [HB2.out.1, List.take_of_length_le (by have := HRR.out; omega)]
                    exact led_all (HF.out.led x HX.out)
                  subst hb1
                  go_wp2
                  go_roundw
                  case rel => exact ⟨j + 1, by omega, by simp, HB2.out.2⟩
                  case measure => simp [intOf]; omega
            · obtain rfl : j = nL := by omega
              have i2 : ¬ (j : Int) < (j : Int) := by omega
              have H8 : Hid (Below w2.heap.size w2 wr) := H7.out.trans (HB.out.mono H7.out.size)
              have HRI8 : Hid (Ids wr ra i R) := HRI7.out.kept HB.out
              have HLI8 : Hid (Ids wr la j L) := HLI7.out.kept HB.out
              clear HB
              generalize wr = w8 at *
              go_wp2
              clear i2
              have hmx : Tryz.prog.follows .mixedOrders = true := by kernel_rfl
              go_loopw [24, 150] (fun f v wr => ∃ (k m : Nat) (ta : Option Addr) (tc : Nat), k ≤ j ∧ m = 2 * k ∧ f = .slice ta m tc ∧ v = .int .i64 (k : Int) ∧ Hid (Below w8.heap.size w8 wr ∧ wr.ownsRow w8.heap.size 31 1 (.slice ta m tc) m (((L.reverse.take k).flatMap (fun x => [x, x])).map (Value.int .u64)))) (fun _ v _ => j - (intOf v).toNat)
              case atStart => exact ⟨0, 0, none, 0, Nat.zero_le _, rfl, rfl, rfl, Below.refl _ _, by simpa using World.ownsRow_nil _ _ _ _⟩
              case round =>
                obtain ⟨k, m, ta, tc, hk, hm, rfl, rfl, HB⟩ := hrel
                by_cases hkt : k < j
                · obtain ⟨ix, hix⟩ : ∃ ix, ix = j - 1 - k := ⟨_, rfl⟩
                  obtain ⟨x, hx⟩ : ∃ x, L[ix]? = some x := ⟨_, List.getElem?_eq_getElem (by have := HLL.out; omega)⟩
                  obtain ⟨lb, lo, rfl, hlc1⟩ := (HLI8.out.kept HB.out.1).2 (by omega)
                  have q0 := hlc1 ix x hx
                  have hIX : IntKind.i64.wrap (IntKind.i64.wrap ((j : Int) - 1) - (k : Int)) = (ix : Int) := by
                    rw [show IntKind.i64.wrap ((j : Int) - 1) = (j : Int) - 1 from wrap_small (by omega) (by omega), wrap_small (by omega) (by omega)]
                    omega
                  have HN : Hid ((L.reverse.take (k + 1)).flatMap (fun x => [x, x]) = (L.reverse.take k).flatMap (fun x => [x, x]) ++ [x, x] ∧ m + 2 = 2 * (k + 1)) := ⟨turnL_step L k x (by have := HLL.out; omega) (by rw [HLL.out, ← hix]; exact hx), by omega⟩
                  have j2 : (k : Int) < (j : Int) := by omega
                  have x2 : (ix : Int) < (j : Int) := by omega
                  have x3 : ix < j := by omega
                  have x4 : (0 : Int) ≤ (ix : Int) := by omega
                  have x5 : ¬ j ≤ ix := by omega
                  have hm2 : m + 2 ≤ 1000000 := by omega
                  have hkj : k + 1 ≤ j := hkt
                  have HXi : Hid (L[ix]? = some x) := hx
                  clear hlc1 hx hm hix hkt hk
                  generalize wr = w9 at *
                  have HM : Hid (j - (k + 1) < j - k) := by show _ < _; omega
                  go_wp2
                  have hBa : Below w9.heap.size w9 (w9.drew.alloc (.cells #[.int .u64 x, .int .u64 x] 31)) := (below_drewN (Below.refl _ w9) 1).alloc (Nat.le_refl _) _
                  have q0a := (hBa.cell (p := ⟨lb, lo + ix, none⟩) (World.block_lt_of_cell? w9 _ q0)).trans q0
                  have hrowA : (w9.drew.alloc (.cells #[.int .u64 x, .int .u64 x] 31)).ownsRow w8.heap.size 31 1 (.slice ta m tc) m (((L.reverse.take k).flatMap (fun x => [x, x])).map (Value.int .u64)) := HB.out.2.drew.alloc _
                  have hIA := lit_ids w9.drew x x (0, 0)
                  refine wp_region_G (S := SB 1000 (fun _ => True) (fun W => W.cell? ⟨lb, lo + ix, none⟩ = some (.int .u64 x))) hmx ?_
                  have hSB : SB 1000 (fun _ => True) (fun W => W.cell? ⟨lb, lo + ix, none⟩ = some (.int .u64 x)) (Array.replicate 20 false) w9.drew := SB.off (by kernel_rfl) q0
                  refine wpAnyG_takeP (i := 0) (v := ?_) rfl (by kernel_rfl) (by kernel_rfl) (by kernel_rfl) (fun _ _ _ h => h) rfl (Or.inl ⟨by rfl, ?_⟩) (by assumption) ?_
                  rotate_left
                  · intro Y hY; go_simp; try with_reducible rfl
                  intro hSB0
                  try simp only [Act.put, List.getElem_toArray, List.getElem_cons_zero, List.setIfInBounds_toArray, List.set_cons_zero, List.set_cons_succ]
                  refine wpAnyG_takeP (i := 1) (v := ?_) rfl (by kernel_rfl) (by kernel_rfl) (by kernel_rfl) (fun _ _ _ h => h) rfl (Or.inl ⟨by rfl, ?_⟩) (by assumption) ?_
                  rotate_left
                  · intro Y hY; go_simp; try with_reducible rfl
                  intro hSB1
                  try simp only [Act.put, List.getElem_toArray, List.getElem_cons_zero, List.getElem_cons_succ, List.setIfInBounds_toArray, List.set_cons_zero, List.set_cons_succ]
                  refine wpAnyG_takeP (i := 2) (v := ?_) rfl (by kernel_rfl) (by kernel_rfl) (by kernel_rfl) (fun _ _ _ h => h) rfl (Or.inl ⟨by rfl, ?_⟩) (by assumption) ?_
                  rotate_left
                  · intro Y hY; go_simp; try with_reducible rfl
                  intro hSB2
                  try simp only [Act.put, List.getElem_toArray, List.getElem_cons_zero, List.getElem_cons_succ, List.setIfInBounds_toArray, List.set_cons_zero, List.set_cons_succ]
                  refine wpAnyG_takeP (i := 3) (v := ?_) rfl (by kernel_rfl) (by kernel_rfl) (by kernel_rfl) (fun _ _ _ h => h) rfl (Or.inl ⟨by rfl, ?_⟩) (by assumption) ?_
                  rotate_left
                  · intro Y hY; go_simp; try with_reducible rfl
                  intro hSB3
                  try simp only [Act.put, List.getElem_toArray, List.getElem_cons_zero, List.getElem_cons_succ, List.setIfInBounds_toArray, List.set_cons_zero, List.set_cons_succ]
                  refine wpAnyG_takeP (i := 4) (v := ?_) rfl (by kernel_rfl) (by kernel_rfl) (by kernel_rfl) (fun _ _ _ h => h) rfl (Or.inl ⟨by rfl, ?_⟩) (by assumption) ?_
                  rotate_left
                  · intro Y hY; go_simp; try with_reducible rfl
                  intro hSB4
                  try simp only [Act.put, List.getElem_toArray, List.getElem_cons_zero, List.getElem_cons_succ, List.setIfInBounds_toArray, List.set_cons_zero, List.set_cons_succ]
                  refine wpAnyG_takeP (i := 5) (v := ?_) rfl (by kernel_rfl) (by kernel_rfl) (by kernel_rfl) (fun _ _ _ h => h) rfl (Or.inl ⟨by rfl, ?_⟩) (by assumption) ?_
                  rotate_left
                  · intro Y hY; go_simp; try with_reducible rfl
                  intro hSB5
                  try simp only [Act.put, List.getElem_toArray, List.getElem_cons_zero, List.getElem_cons_succ, List.setIfInBounds_toArray, List.set_cons_zero, List.set_cons_succ]
                  refine wpAnyG_takeP (i := 6) (v := ?_) rfl (by kernel_rfl) (by kernel_rfl) (by kernel_rfl) (fun _ _ _ h => h) rfl (Or.inl ⟨by rfl, ?_⟩) (by assumption) ?_
                  rotate_left
                  · intro Y hY; go_simp; try with_reducible rfl
                  intro hSB6
                  try simp only [Act.put, List.getElem_toArray, List.getElem_cons_zero, List.getElem_cons_succ, List.setIfInBounds_toArray, List.set_cons_zero, List.set_cons_succ]
                  refine wpAnyG_takeP (i := 7) (v := ?_) rfl (by kernel_rfl) (by kernel_rfl) (by kernel_rfl) (fun _ _ _ h => h) rfl (Or.inl ⟨by rfl, ?_⟩) (by assumption) ?_
                  rotate_left
                  · intro Y hY; go_simp; try with_reducible rfl
                  intro hSB7
                  try simp only [Act.put, List.getElem_toArray, List.getElem_cons_zero, List.getElem_cons_succ, List.setIfInBounds_toArray, List.set_cons_zero, List.set_cons_succ]
                  refine wpAnyG_takeP (i := 8) (v := ?_) rfl (by kernel_rfl) (by kernel_rfl) (by kernel_rfl) (fun _ _ _ h => h) rfl (Or.inl ⟨by rfl, ?_⟩) (by assumption) ?_
                  rotate_left
                  · intro Y hY; go_simp; try with_reducible rfl
                  intro hSB8
                  try simp only [Act.put, List.getElem_toArray, List.getElem_cons_zero, List.getElem_cons_succ, List.setIfInBounds_toArray, List.set_cons_zero, List.set_cons_succ]
                  refine wpAnyG_takeP (i := 9) (v := ?_) rfl (by kernel_rfl) (by kernel_rfl) (by kernel_rfl) (fun _ _ _ h => h) rfl (Or.inl ⟨by rfl, ?_⟩) (by assumption) ?_
                  rotate_left
                  · intro Y hY; go_simp; try with_reducible rfl
                  intro hSB9
                  try simp only [Act.put, List.getElem_toArray, List.getElem_cons_zero, List.getElem_cons_succ, List.setIfInBounds_toArray, List.set_cons_zero, List.set_cons_succ]
                  refine wpAnyG_takeP (i := 10) (v := ?_) rfl (by kernel_rfl) (by kernel_rfl) (by kernel_rfl) (fun _ _ _ h => h) rfl (Or.inl ⟨by rfl, ?_⟩) (by assumption) ?_
                  rotate_left
                  · intro Y hY; go_simp; try with_reducible rfl
                  intro hSB10
                  try simp only [Act.put, List.getElem_toArray, List.getElem_cons_zero, List.getElem_cons_succ, List.setIfInBounds_toArray, List.set_cons_zero, List.set_cons_succ]
                  refine wpAnyG_takeP (i := 11) (v := ?_) rfl (by kernel_rfl) (by kernel_rfl) (by kernel_rfl) (fun _ _ _ h => h) rfl (Or.inl ⟨by rfl, ?_⟩) (by assumption) ?_
                  rotate_left
                  · intro Y hY; go_simp; try with_reducible rfl
                  intro hSB11
                  try simp only [Act.put, List.getElem_toArray, List.getElem_cons_zero, List.getElem_cons_succ, List.setIfInBounds_toArray, List.set_cons_zero, List.set_cons_succ]
                  refine wpAnyG_takeP (i := 12) (v := ?_) rfl (by kernel_rfl) (by kernel_rfl) (by kernel_rfl) (fun _ _ _ h => h) rfl (Or.inl ⟨by rfl, ?_⟩) (by assumption) ?_
                  rotate_left
                  · intro Y hY; go_simp; try with_reducible rfl
                  intro hSB12
                  try simp only [Act.put, List.getElem_toArray, List.getElem_cons_zero, List.getElem_cons_succ, List.setIfInBounds_toArray, List.set_cons_zero, List.set_cons_succ]
                  refine wpAnyG_takeP (i := 13) (v := ?_) rfl (by kernel_rfl) (by kernel_rfl) (by kernel_rfl) (fun _ _ _ h => h) rfl (Or.inl ⟨by rfl, ?_⟩) (by assumption) ?_
                  rotate_left
                  · intro Y hY; go_simp; try with_reducible rfl
                  intro hSB13
                  try simp only [Act.put, List.getElem_toArray, List.getElem_cons_zero, List.getElem_cons_succ, List.setIfInBounds_toArray, List.set_cons_zero, List.set_cons_succ]
                  refine wpAnyG_takeP (i := 14) (v := ?_) rfl (by kernel_rfl) (by kernel_rfl) (by kernel_rfl) (fun _ _ _ h => h) rfl (Or.inl ⟨by rfl, ?_⟩) (by assumption) ?_
                  rotate_left
                  · intro Y hY; go_simp; try with_reducible rfl
                  intro hSB14
                  try simp only [Act.put, List.getElem_toArray, List.getElem_cons_zero, List.getElem_cons_succ, List.setIfInBounds_toArray, List.set_cons_zero, List.set_cons_succ]
                  refine wpAnyG_takeP (i := 15) (v := ?_) rfl (by kernel_rfl) (by kernel_rfl) (by kernel_rfl) (fun _ _ _ h => h) rfl (Or.inl ⟨by rfl, ?_⟩) (by assumption) ?_
                  rotate_left
                  · intro Y hY; go_simp; try with_reducible rfl
                  intro hSB15
                  try simp only [Act.put, List.getElem_toArray, List.getElem_cons_zero, List.getElem_cons_succ, List.setIfInBounds_toArray, List.set_cons_zero, List.set_cons_succ]
                  refine wpAnyG_takeP (i := 16) (v := ?_) rfl (by kernel_rfl) (by kernel_rfl) (by kernel_rfl) (fun _ _ _ h => h) rfl (Or.inl ⟨by rfl, ?_⟩) (by assumption) ?_
                  rotate_left
                  · intro Y hY; go_simp; try with_reducible rfl
                  intro hSB16
                  try simp only [Act.put, List.getElem_toArray, List.getElem_cons_zero, List.getElem_cons_succ, List.setIfInBounds_toArray, List.set_cons_zero, List.set_cons_succ]
                  refine wpAnyG_one (i := 17) (by kernel_rfl) rfl (fun K hK => ?_)
                  go_simp
                  refine hK.out _ _ (SB.off (by kernel_rfl) q0a) (fun hSB17 => ?_)
                  clear hK K
                  refine wpAnyG_one (i := 18) (by kernel_rfl) rfl (fun K hK => ?_)
                  refine step_appIds _ (by rfl) _ _ (by rfl) w8.heap.size m 2 2 (.slice ta m tc) ((L.reverse.take k).flatMap (fun x => [x, x])) [x, x] (some ⟨w9.heap.size, 0, none⟩) (by rfl) (by rfl) hrowA hIA (fun h => by cases h) hm2 (Nat.le_trans HB.out.1.size hBa.size) ?_
                  intro ad5 cp5 w5x hcp5 hro5 hgr5 _
                  have hB5 : Below w8.heap.size w8 w5x := (HB.out.1.trans (hBa.mono HB.out.1.size)).grown hgr5 (Nat.le_trans HB.out.1.size hBa.size) (fun z hz => (hrowA.lt z hz).1)
                  have q0b : w5x.cell? ⟨lb, lo + ix, none⟩ = some (.int .u64 x) := by
                    obtain ⟨_, _, ee, hc⟩ := (HLI8.out.kept hB5).2 (by omega)
                    cases ee
                    exact hc ix x HXi.out
                  have H5 : Hid (Below w8.heap.size w8 w5x ∧ w5x.ownsRow w8.heap.size 31 1 (.slice ad5 (m + 2) cp5) (m + 2) (((L.reverse.take (k + 1)).flatMap (fun x => [x, x])).map (Value.int .u64))) := ⟨hB5, by rw [HN.out.1]; exact hro5⟩
                  refine hK.out _ _ (SB.off (by kernel_rfl) q0b) (fun hSB18 => ?_)
                  clear hK K hro5 hgr5 hB5
                  try simp only [Act.put, List.getElem_toArray, List.getElem_cons_zero, List.getElem_cons_succ, List.setIfInBounds_toArray, List.set_cons_zero, List.set_cons_succ]
                  refine wpAnyG_takeP (i := 19) (v := ?_) rfl (by kernel_rfl) (by kernel_rfl) (by kernel_rfl) (fun _ _ _ h => h) rfl (Or.inl ⟨by rfl, ?_⟩) (by assumption) ?_
                  rotate_left
                  · intro Y hY; go_simp; try with_reducible rfl
                  intro hSB19
                  try simp only [Act.put, List.getElem_toArray, List.getElem_cons_zero, List.getElem_cons_succ, List.setIfInBounds_toArray, List.set_cons_zero, List.set_cons_succ]
                  refine wpAnyG_done (by kernel_rfl) ?_ _
                  clear hSB hSB17 hSB18 q0 q0a q0b hrowA hIA hBa HB hSB0 hSB1 hSB2 hSB3 hSB4 hSB5 hSB6 hSB7 hSB8 hSB9 hSB10 hSB11 hSB12 hSB13 hSB14 hSB15 hSB16 hSB19
                  go_wp2
                  go_roundw
                  case rel => exact ⟨k + 1, m + 2, ad5, cp5, hkj, HN.out.2, rfl, by simp, H5.out⟩
                  case measure => simp [intOf]; exact HM.out
                · obtain rfl : k = j := by omega
                  have i2 : ¬ (k : Int) < (k : Int) := by omega
                  have hTL : (L.reverse.take k).flatMap (fun x => [x, x]) = turnL L := by
                    rw [List.take_of_length_le (by rw [List.length_reverse, HLL.out]; omega)]
                    rfl
                  have hrow9 := HB.out.2
                  rw [hTL] at hrow9
                  obtain ⟨_, _, ee, htc, _⟩ := row_shapeN hrow9
                  cases ee
                  obtain ⟨_, _, ee, hI9⟩ := own_idsG hrow9
                  cases ee
                  have H9 : Hid (Below w2.heap.size w2 wr) := H8.out.trans (HB.out.1.mono H8.out.size)
                  have HRI9 : Hid (Ids wr ra i R) := HRI8.out.kept HB.out.1
                  obtain ⟨⟨c0, _⟩, _, hIS⟩ := HEv.out wr H9.out
                  obtain ⟨g3, hg3, hl3, hs3⟩ := HF.out.turned
                  have hre := reduce_ok wr s d st.os _ false F hIS HI2.out.2.2 ta m tc (turnL L) hI9 (fun x hx => HL.out x ((turnL_mem L x).1 hx)) htc (by omega) g3 hg3
                  rw [hl3, HRR.out] at hre
                  have HS3 : Hid (∀ x ∈ redP st.os g3 (turnL L), x ∈ R) := hs3
                  have HL3 : Hid ((redP st.os g3 (turnL L)).length = i) := by show _ = _; rw [hl3]; exact HRR.out
                  clear hrow9 hTL hI9 hIS hg3 hl3 hs3 hm HB
                  generalize redP st.os g3 (turnL L) = R3 at *
                  generalize wr = w9 at *
                  go_wp2_with fail
                  refine hre.mono ?_
                  clear hre c0
                  rintro e w10 ⟨⟨ua, uc, rfl, hrow10⟩, hB10⟩
                  have H10 : Hid (Below w2.heap.size w2 w10) := H9.out.trans (hB10.mono H9.out.size)
                  have HRI10 : Hid (Ids w10 ra i R) := HRI9.out.kept hB10
                  obtain ⟨_, _, ee, hI10⟩ := own_idsG hrow10
                  cases ee
                  have HU : Hid (Ids w10 ua i R3) := hI10
                  clear hrow10 hI10 hB10 i2
                  go_wp2
                  go_loopw [193] (fun v wr => ∃ q : Nat, q ≤ i ∧ v = .int .i64 (q : Int) ∧ Hid (wr = w10)) (fun v _ => i - (intOf v).toNat)
                  case atStart => exact ⟨0, Nat.zero_le _, rfl, rfl⟩
                  case round =>
                    obtain ⟨q, hq, rfl, HW⟩ := hrel
                    have hwr := HW.out
                    subst hwr
                    by_cases hqt : q < i
                    · obtain ⟨x, hx⟩ : ∃ x, R3[q]? = some x := ⟨_, List.getElem?_eq_getElem (by have := HL3.out; omega)⟩
                      obtain ⟨ub, uo, rfl, huc1⟩ := HU.out.2 (by omega)
                      have q0 := huc1 q x hx
                      have hha := has12_any _ ra i rc R HRI10.out (by omega) x
                      rw [show R.contains x = true by simpa using HS3.out x (List.mem_of_getElem? hx)] at hha
                      have j2 : (q : Int) < (i : Int) := by omega
                      have j3 : ¬ i ≤ q := by omega
                      clear huc1 hx
                      go_wp2_with (go_at_call 25; refine hha.mono ?_; clear hha; rintro e w11 ⟨rfl, hw11⟩; subst hw11)
                      go_roundw
                      case rel => exact ⟨q + 1, by omega, by simp, trivial⟩
                      case measure => simp [intOf]; omega
                    · obtain rfl : q = i := by omega
                      have j2 : ¬ (q : Int) < (q : Int) := by omega
                      have hwl := wakes12_any wr
                      go_wp2_with fail
                      refine hwl.mono ?_
                      clear hwl
                      rintro e w12 ⟨rfl, hB12⟩
                      have H12 : Hid (Below w.heap.size w w12) := H2.out.trans ((H10.out.trans (hB12.mono H10.out.size)).mono H2.out.size)
                      clear hB12
                      go_wp2
                      go_ret
                      exact ⟨rfl, H12.out⟩
end Go.Proofs.YtncagdfbgpdhfaaGreat
