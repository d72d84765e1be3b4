import Derived.Test.YtncagdfbgpdhfaaGreatQ35
import Derived.ProofKit
import Derived.OpenShut
import Derived.ShutString
import Derived.ChangeOld
import Derived.SizedLaws
import Derived.Deep.Slices
import Derived.Test.YtncagdfbgpdhfaaGreatQ33
/- Commits and numbers that came in, opened. -/
namespace Go.Proofs.YtncagdfbgpdhfaaGreat
open Go.ChangeShapes Go.WideShapes Go.ChangeAt Go.RowKit

theorem ints_cell {H : Type} {enc : TypeId × Value → H} {W : World} {fuel : Nat} {v : Value} {x : DataW H × List MemPlace} (hf : DataW.trod enc Tryz.prog W 0 (fun _ => true) true fuel 23 [v] = some x) :
    ∃ a n cap l, v = .slice a n cap ∧ Ints W a n l ∧ (∀ x ∈ l, -9223372036854775808 ≤ x ∧ x ≤ 9223372036854775807) ∧ n ≤ cap ∧ n ≤ 9223372036854775807 ∧ (a = none → n = 0 ∧ cap = 0) := by
  rcases open_ints Tryz.underlying23 Tryz.underlying3 (by kernel_rfl) hf with ⟨hcs, _⟩ | ⟨x, n, cap, zs, hcs, _, hl, hm, hz, hx, hcell, hwz⟩
  · simp only [List.cons.injEq, and_true] at hcs
    subst hcs
    exact ⟨none, 0, 0, [], rfl, ⟨rfl, fun h0 => by omega⟩, fun x hx => (by simp at hx), Nat.le_refl _, by omega, fun _ => ⟨rfl, rfl⟩⟩
  · simp only [List.cons.injEq, and_true] at hcs
    subst hcs
    simp only [if_true] at hz
    refine ⟨some x, n, cap, zs.take n, rfl, ⟨by rw [List.length_take]; omega, fun h0 => ?_⟩, fun x hx => ?_, hl, by unfold maxLen at hm; omega, fun h => by cases h⟩
    · obtain ⟨b, off, spot⟩ := x
      have hc := hcell 0 (by omega)
      have hspot : spot = none := by simpa [Addr.add] using World.cell?_spot hc
      subst hspot
      refine ⟨b, off, rfl, fun i x hx => ?_⟩
      have hi : i < n := by have := (List.getElem?_eq_some_iff.1 hx).1; rw [List.length_take] at this; omega
      have hci := hcell i (by omega)
      rw [Addr.add_lit] at hci
      rw [hci]
      rw [List.getElem?_take_of_lt hi] at hx
      rw [List.getD_eq_getElem?_getD, hx]; rfl
    · have := bounds_i64 (hwz x (List.mem_of_mem_take hx))
      omega

set_option maxRecDepth 100000 in
theorem borns_arg {H : Type} {enc : TypeId × Value → H} {W : World} {base : Nat} {v : Value} {d : DataW H} {ps : List MemPlace} (hok : Value.okWide Tryz.prog W .any base 60 v)
    (h : DataW.Trod enc Tryz.prog W 0 (fun _ => true) true 60 v d ps) :
    ∃ a n cap l, v = .slice a n cap ∧ Brs W a n l ∧ n ≤ 9223372036854775807 := by
  obtain ⟨a, n, cap, rfl⟩ := okWide_slice Tryz.underlying60 hok
  obtain ⟨fuel, hf⟩ := h
  rcases Deep.open_slice Tryz.underlying60 hf with ⟨hcs, _⟩ | ⟨x, len, c, m, j, D, Pl, hcs, _, hl, hmx, hm, hx, hel⟩
  · simp [Value.cells] at hcs
    obtain ⟨rfl, rfl, rfl⟩ := hcs
    exact ⟨none, 0, 0, [], rfl, ⟨rfl, fun h0 => by omega⟩, by omega⟩
  · simp [Value.cells] at hcs
    obtain ⟨rfl, rfl, rfl⟩ := hcs
    simp only [if_true] at hm
    have hcell : ∀ i, i < n → ∃ o : BornD, ∃ ba bn bc, W.cell? (x.add (i * 5)) = some (.slice ba bn bc) ∧ W.cell? (x.add (i * 5 + 1)) = some (.int .i64 o.date) ∧ W.cell? (x.add (i * 5 + 2)) = some (.bool o.blob) ∧ W.cell? (x.add (i * 5 + 3)) = some (.bool o.lost) ∧ W.cell? (x.add (i * 5 + 4)) = some (.bool o.bare) ∧ Ints W ba bn o.back ∧ bn ≤ 9223372036854775807 ∧ -9223372036854775808 ≤ o.date ∧ o.date ≤ 9223372036854775807 := by
      intro i hi
      obtain ⟨cs', hc1, hc2⟩ := hel i (by omega)
      rw [show Tryz.prog.cellsOf 105 = 5 from by kernel_rfl] at hc1
      obtain ⟨xs, fu, _, _, _, hxl, hfl⟩ := DataW.trod_struct Tryz.underlying105 hc2
      obtain ⟨_, hlen2, hget⟩ := World.cells?_some hc1
      have e0 : Tryz.prog.cellsOf 23 = 1 := by kernel_rfl
      have e1 : Tryz.prog.cellsOf 2 = 1 := by kernel_rfl
      have e4 : Tryz.prog.cellsOf 4 = 1 := by kernel_rfl
      match cs', hlen2, xs, hxl with
      | [z0, z1, z2, z3, z4], _, [y0, y1, y2, y3, y4], _ =>
        have f0 : DataW.trod enc Tryz.prog W 0 (fun _ => true) true fu 23 [z0] = some y0 := by simpa [e0] using hfl 0 _ rfl
        have f1 : DataW.trod enc Tryz.prog W 0 (fun _ => true) true fu 2 [z1] = some y1 := by simpa [e1] using hfl 1 _ rfl
        have f2 : DataW.trod enc Tryz.prog W 0 (fun _ => true) true fu 4 [z2] = some y2 := by simpa [e4] using hfl 2 _ rfl
        have f3 : DataW.trod enc Tryz.prog W 0 (fun _ => true) true fu 4 [z3] = some y3 := by simpa [e4] using hfl 3 _ rfl
        have f4 : DataW.trod enc Tryz.prog W 0 (fun _ => true) true fu 4 [z4] = some y4 := by simpa [e4] using hfl 4 _ rfl
        obtain ⟨k1, c1, _, w1⟩ := DataW.trod_int Tryz.underlying2 f1
        obtain ⟨b2, c2, _⟩ := DataW.trod_bool Tryz.underlying4 f2
        obtain ⟨b3, c3, _⟩ := DataW.trod_bool Tryz.underlying4 f3
        obtain ⟨b4, c4, _⟩ := DataW.trod_bool Tryz.underlying4 f4
        simp only [List.cons.injEq, and_true] at c1 c2 c3 c4
        subst c1 c2 c3 c4
        obtain ⟨pa, pn, pc, l, e, hI, _, _, h2, _⟩ := ints_cell f0
        subst e
        have g0 := hget 0 (by simp)
        have g1 := hget 1 (by simp)
        have g2 := hget 2 (by simp)
        have g3 := hget 3 (by simp)
        have g4 := hget 4 (by simp)
        rw [Deep.add_add] at g0 g1 g2 g3 g4
        have hw1 := bounds_i64 w1
        exact ⟨⟨l, k1, b2, b3, b4⟩, pa, pn, pc, by simpa using g0, by simpa using g1, by simpa using g2, by simpa using g3, by simpa using g4, hI, h2, hw1.1, hw1.2⟩
    haveI : Inhabited BornD := ⟨⟨[], 0, false, false, false⟩⟩
    obtain ⟨g, hg⟩ := Deep.choose_lt hcell
    refine ⟨some x, n, cap, (List.range n).map g, rfl, ⟨by simp, fun h0 => ?_⟩, by unfold maxLen at hmx; omega⟩
    obtain ⟨b, off, spot⟩ := x
    obtain ⟨_, _, _, hc, _⟩ := hg 0 h0
    have hspot : spot = none := by simpa [Addr.add] using World.cell?_spot hc
    subst hspot
    refine ⟨b, off, rfl, fun i y hy => ?_⟩
    have hi : i < n := by have := (List.getElem?_eq_some_iff.1 hy).1; simpa using this
    have ey : y = g i := by
      rw [List.getElem?_map, List.getElem?_range hi] at hy
      exact (Option.some.inj hy).symm
    subst ey
    obtain ⟨ba, bn, bc, e1, e2, e3, e4, e5, hr⟩ := hg i hi
    rw [Addr.add_lit] at e1 e2 e3 e4 e5
    rw [← Nat.add_assoc] at e2 e3 e4 e5
    exact ⟨ba, bn, bc, e1, e2, e3, e4, e5, hr⟩
set_option maxRecDepth 100000 in
theorem ints_arg {H : Type} {enc : TypeId × Value → H} {W : World} {base : Nat} {v : Value} {d : DataW H} {ps : List MemPlace} (hok : Value.okWide Tryz.prog W .any base 23 v)
    (h : DataW.Trod enc Tryz.prog W 0 (fun _ => true) true 23 v d ps) :
    ∃ a n cap l, v = .slice a n cap ∧ Ints W a n l ∧ (∀ x ∈ l, -9223372036854775808 ≤ x ∧ x ≤ 9223372036854775807) ∧ n ≤ 9223372036854775807 := by
  obtain ⟨a, n, cap, rfl⟩ := okWide_slice Tryz.underlying23 hok
  obtain ⟨fuel, hf⟩ := h
  have hf' : DataW.trod enc Tryz.prog W 0 (fun _ => true) true fuel 23 [.slice a n cap] = some (d, ps) := by simpa [Value.cells] using hf
  obtain ⟨a', n', c', l, e, h1, h2, _, h3, _⟩ := ints_cell hf'
  exact ⟨a', n', c', l, e, h1, h2, h3⟩
end Go.Proofs.YtncagdfbgpdhfaaGreat

/- The walk of the law's heads: ids of a history, by numbers. -/
namespace Go.Proofs.YtncagdfbgpdhfaaGreat
open Go.RowKit Go.Maps

attribute [local go_sem] Oper.semAt_some

def headId (ids : List Int) (x : Int) : Int := if x < 0 ∨ ids.length = 0 then 99 else (ids[x.toNat % ids.length]?).getD 0
def headsG (ids : List Int) (l : List Int) : List Int := (l.take 8).map (headId ids)
theorem headsG_take (ids l : List Int) (k : Nat) (x : Int) (h8 : k < 8) (h : l[k]? = some x) : (headsG ids (l.take k)) ++ [headId ids x] = headsG ids (l.take (k + 1)) := by
  have hk := (List.getElem?_eq_some_iff.1 h).1
  have hx : l[k] = x := (List.getElem?_eq_some_iff.1 h).2
  unfold headsG
  rw [List.take_take, List.take_take, show min 8 k = k by omega, show min 8 (k + 1) = k + 1 by omega, List.take_succ_eq_append_getElem hk, hx]
  simp
theorem headsG_len (ids l : List Int) : (headsG ids l).length ≤ 8 := by unfold headsG; rw [List.length_map, List.length_take]; omega
theorem headId_rng {ids : List Int} (hr : ∀ i ∈ ids, 0 ≤ i ∧ i ≤ 18446744073709551615) (x : Int) : 0 ≤ headId ids x ∧ headId ids x ≤ 18446744073709551615 := by
  unfold headId
  split
  · omega
  · rename_i h
    have hl : x.toNat % ids.length < ids.length := Nat.mod_lt _ (by omega)
    rw [List.getElem?_eq_getElem hl, Option.getD_some]
    exact hr _ (List.getElem_mem hl)
theorem headsG_rng {ids : List Int} (hr : ∀ i ∈ ids, 0 ≤ i ∧ i ≤ 18446744073709551615) (l : List Int) : ∀ x ∈ headsG ids l, 0 ≤ x ∧ x ≤ 18446744073709551615 := by
  intro x hx
  unfold headsG at hx
  obtain ⟨y, _, rfl⟩ := List.mem_map.1 hx
  exact headId_rng hr y

set_option maxRecDepth 100000 in
set_option maxHeartbeats 4000000 in
theorem heads_any (w : World) (hb k ic : Nat) (ia : Option Addr) (ids : List Int) (c2 : w.cell? ⟨hb, 2, none⟩ = some (.slice ia k ic)) (hids : Ids w ia k ids) (hk : k ≤ 1000000) (a : Option Addr) (n c : Nat) (l : List Int) (hl : Ints w a n l) (hn : n ≤ 9223372036854775807) (hlr : ∀ x ∈ l, -9223372036854775808 ≤ x ∧ x ≤ 9223372036854775807) :
    Calls Tryz.prog 29 #[.pointer (some ⟨hb, 0, none⟩), .slice a n c] w fun e w' => ∃ ad cp, e = .returned (.slice ad (headsG ids l).length cp) ∧ w'.ownsRow w.heap.size 31 1 (.slice ad (headsG ids l).length cp) (headsG ids l).length ((headsG ids l).map (Value.int .u64)) ∧ Below w.heap.size w w' := by
  have hll := hl.1
  have hil := hids.1
  obtain ⟨i0, hi, hzz0, hzz1, hzz2⟩ := info_parts infoIdG
  have hmx : Tryz.prog.follows .mixedOrders = true := by kernel_rfl
  obtain ⟨R, hR⟩ : ∃ R, R = headsG ids l := ⟨_, rfl⟩
  have HR : Hid (R = headsG ids l) := hR
  rw [← hR]
  clear hR
  have HL : Hid (Ints w a n l ∧ Ids w ia k ids ∧ (∀ x ∈ l, -9223372036854775808 ≤ x ∧ x ≤ 9223372036854775807) ∧ l.length = n ∧ ids.length = k) := ⟨hl, hids, hlr, hll, hil⟩
  clear hl hids hlr hll hil
  go_enter Tryz.func29, Tryz.ntmps29
  go_wp2
  go_loopg [5, 10] n (fun g v i wr => ∃ (j m : Nat) (ad : Option Addr) (cp : Nat), j + g = n ∧ j ≤ 8 ∧ m ≤ 8 ∧ i = .int .i64 (j : Int) ∧ v = .slice ad m cp ∧ Hid (m = (headsG ids (l.take j)).length ∧ wr.ownsRow w.heap.size 31 1 (.slice ad m cp) m ((headsG ids (l.take j)).map (Value.int .u64)) ∧ Below w.heap.size w wr))
  case atStart => exact ⟨0, 0, none, 0, by omega, by omega, by omega, rfl, rfl, rfl, World.ownsRow_nil _ _ _ _, Below.refl _ _⟩
  case round =>
    obtain ⟨j, m, ad, cp, hj, hj8, hm8, rfl, rfl, H⟩ := hrel
    cases gk with
    | zero =>
      obtain rfl : j = n := by omega
      have i2 : ¬ (j : Int) < (j : Int) := by omega
      have HE : Hid (m = R.length ∧ wr.ownsRow w.heap.size 31 1 (.slice ad m cp) m (R.map (Value.int .u64)) ∧ Below w.heap.size w wr) := by
        have h1 := H.out
        rw [List.take_of_length_le (by rw [HL.out.2.2.2.1]; exact Nat.le_refl _), ← HR.out] at h1
        exact h1
      clear H
      go_wp2
      go_ret
      obtain ⟨h1, h2, h3⟩ := HE.out
      exact ⟨ad, cp, by rw [← h1]; rfl, by rw [← h1]; exact h2, h3⟩
    | succ gk =>
      have hjl : j < n := by omega
      obtain ⟨x, hx⟩ : ∃ x, l[j]? = some x := ⟨_, List.getElem?_eq_getElem (by rw [HL.out.2.2.2.1]; omega)⟩
      obtain ⟨b2, o2, hba, hc2⟩ := HL.out.1.2 (by omega)
      subst hba
      obtain ⟨hm, hrow, hB⟩ := H.out
      have q0 := (hB.cell (p := ⟨b2, o2 + j, none⟩) (World.block_lt_of_cell? w _ (hc2 j x hx))).trans (hc2 j x hx)
      have d2 := (hB.cell (p := ⟨hb, 2, none⟩) (World.block_lt_of_cell? w _ c2)).trans c2
      have hxr := HL.out.2.2.1 x (List.mem_of_getElem? hx)
      have i2 : (j : Int) < (n : Int) := by omega
      have i3 : ¬ n ≤ j := by omega
      by_cases h8 : j = 8
      · subst h8
        have HE : Hid (m = R.length ∧ wr.ownsRow w.heap.size 31 1 (.slice ad m cp) m (R.map (Value.int .u64)) ∧ Below w.heap.size w wr) := by
          have e : headsG ids (l.take 8) = headsG ids l := by unfold headsG; rw [List.take_take, Nat.min_self]
          have h1 := H.out
          rw [e, ← HR.out] at h1
          exact h1
        clear H hx hc2 hm hrow hB
        go_wp2
        go_ret
        obtain ⟨h1, h2, h3⟩ := HE.out
        exact ⟨ad, cp, by rw [← h1]; rfl, by rw [← h1]; exact h2, h3⟩
      · have h8' : ((j : Int) == 8) = false := by simp; omega
        have h8'' : ¬ (j : Int) = 8 := by omega
        have hst := headsG_take ids l j x (by omega) hx
        have HJ : Hid (j + 1 + gk = n ∧ j + 1 ≤ 8) := ⟨by omega, by omega⟩
        by_cases hbad : x < 0 ∨ k = 0
        · have e99 : headId ids x = 99 := by unfold headId; rw [HL.out.2.2.2.2, if_pos hbad]
          rw [e99] at hst
          have hr1 := hrow.alloc (.cells #[.int .u64 99] 31)
          have HSZ : Hid (w.heap.size ≤ (wr.alloc (.cells #[.int .u64 99] 31)).heap.size) := by have := hB.size; show _ ≤ _; rw [World.size_alloc]; omega
          have HB : Hid (Below w.heap.size w (wr.alloc (.cells #[.int .u64 99] 31))) := hB.alloc hB.size _
          have HST : Hid (headsG ids (l.take j) ++ [99] = headsG ids (l.take (j + 1)) ∧ m = (headsG ids (l.take j)).length) := ⟨hst, hm⟩
          have hm7 : m + 1 ≤ 8 := by have := headsG_len ids (l.take (j + 1)); rw [← hst, List.length_append] at this; simp at this; omega
          clear H hx hc2 hm hrow hB hst e99
          rcases hbad with hneg | hz
          · go_wp2_with
              (at_builtin
               refine wpList_append_own_at _ rfl _ _ 28 rfl w.heap.size 31 i0 _ 1 8 Tryz.underlying28 hi hzz0 hzz1 hzz2 rfl (by decide) _ m _ rfl hr1 ⟨_, 0, none⟩ 1 1 [.int .u64 99] rfl rfl (cell_one_new _ _ _) (by simp [Value.oneCell']) (by unfold maxLen; omega) (by omega) HSZ.out ?_
               intro v' w5 hown5 hgr5 _ _
               have H5 : Hid (w5.ownsRow w.heap.size 31 1 v' (m + 1) ((headsG ids (l.take j)).map (Value.int .u64) ++ [.int .u64 99]) ∧ Below w.heap.size w w5) := ⟨hown5, HB.out.trans (below_gr1 hr1 HSZ.out hgr5)⟩
               clear hgr5
               obtain ⟨ad5, cp5, hv5, _⟩ := row_shapeN hown5
               clear hown5
               subst hv5)
            go_roundg gk
            case measure => omega
            case rel => exact ⟨j + 1, m + 1, ad5, cp5, HJ.out.1, HJ.out.2, hm7, by simp, rfl, by rw [← HST.out.1, List.length_append, ← HST.out.2]; rfl, by rw [← HST.out.1, List.map_append]; exact H5.out.1, H5.out.2⟩
          · subst hz
            by_cases hneg : x < 0
            · go_wp2_with
                (at_builtin
                 refine wpList_append_own_at _ rfl _ _ 28 rfl w.heap.size 31 i0 _ 1 8 Tryz.underlying28 hi hzz0 hzz1 hzz2 rfl (by decide) _ m _ rfl hr1 ⟨_, 0, none⟩ 1 1 [.int .u64 99] rfl rfl (cell_one_new _ _ _) (by simp [Value.oneCell']) (by unfold maxLen; omega) (by omega) HSZ.out ?_
                 intro v' w5 hown5 hgr5 _ _
                 have H5 : Hid (w5.ownsRow w.heap.size 31 1 v' (m + 1) ((headsG ids (l.take j)).map (Value.int .u64) ++ [.int .u64 99]) ∧ Below w.heap.size w w5) := ⟨hown5, HB.out.trans (below_gr1 hr1 HSZ.out hgr5)⟩
                 clear hgr5
                 obtain ⟨ad5, cp5, hv5, _⟩ := row_shapeN hown5
                 clear hown5
                 subst hv5)
              go_roundg gk
              case measure => omega
              case rel => exact ⟨j + 1, m + 1, ad5, cp5, HJ.out.1, HJ.out.2, hm7, by simp, rfl, by rw [← HST.out.1, List.length_append, ← HST.out.2]; rfl, by rw [← HST.out.1, List.map_append]; exact H5.out.1, H5.out.2⟩
            · go_wp2_with
                (at_builtin
                 refine wpList_append_own_at _ rfl _ _ 28 rfl w.heap.size 31 i0 _ 1 8 Tryz.underlying28 hi hzz0 hzz1 hzz2 rfl (by decide) _ m _ rfl hr1 ⟨_, 0, none⟩ 1 1 [.int .u64 99] rfl rfl (cell_one_new _ _ _) (by simp [Value.oneCell']) (by unfold maxLen; omega) (by omega) HSZ.out ?_
                 intro v' w5 hown5 hgr5 _ _
                 have H5 : Hid (w5.ownsRow w.heap.size 31 1 v' (m + 1) ((headsG ids (l.take j)).map (Value.int .u64) ++ [.int .u64 99]) ∧ Below w.heap.size w w5) := ⟨hown5, HB.out.trans (below_gr1 hr1 HSZ.out hgr5)⟩
                 clear hgr5
                 obtain ⟨ad5, cp5, hv5, _⟩ := row_shapeN hown5
                 clear hown5
                 subst hv5)
              go_roundg gk
              case measure => omega
              case rel => exact ⟨j + 1, m + 1, ad5, cp5, HJ.out.1, HJ.out.2, hm7, by simp, rfl, by rw [← HST.out.1, List.length_append, ← HST.out.2]; rfl, by rw [← HST.out.1, List.map_append]; exact H5.out.1, H5.out.2⟩
        · have hx0 : ¬ x < 0 := fun h => hbad (.inl h)
          have hk0 : ¬ k = 0 := fun h => hbad (.inr h)
          obtain ⟨ix, hix⟩ : ∃ ix, ix = x.toNat % k := ⟨_, rfl⟩
          have hixl : ix < k := by rw [hix]; exact Nat.mod_lt _ (by omega)
          obtain ⟨idv, hidv⟩ : ∃ idv, ids[ix]? = some idv := ⟨_, List.getElem?_eq_getElem (by rw [HL.out.2.2.2.2]; exact hixl)⟩
          have eid : headId ids x = idv := by
            unfold headId
            rw [HL.out.2.2.2.2, if_neg hbad, ← hix, hidv]
            rfl
          rw [eid] at hst
          obtain ⟨ig, io, hia, hci⟩ := HL.out.2.1.2 (by omega)
          subst hia
          have qi := (hB.cell (p := ⟨ig, io + ix, none⟩) (World.block_lt_of_cell? w _ (hci ix idv hidv))).trans (hci ix idv hidv)
          have hIX : x.tmod (k : Int) = (ix : Int) := by
            have h1 : x = ((x.toNat : Nat) : Int) := by omega
            rw [h1, hix]
            rfl
          have hix1 : (ix : Int) < (k : Int) := by omega
          have hix2 : (0 : Int) ≤ (ix : Int) := by omega
          have hix3 : ¬ k ≤ ix := by omega
          have kp : ¬ (k : Int) = 0 := by omega
          have hrowA := ((row_low hrow (Nat.zero_le _)).alloc (.cells #[.int .u64 idv] 31)).drew
          have HST : Hid (headsG ids (l.take j) ++ [idv] = headsG ids (l.take (j + 1)) ∧ m = (headsG ids (l.take j)).length) := ⟨hst, hm⟩
          have hm7 : m + 1 ≤ 8 := by have := headsG_len ids (l.take (j + 1)); rw [← hst, List.length_append] at this; simp at this; omega
          have hBa : Below wr.heap.size wr (wr.alloc (.cells #[.int .u64 idv] 31)).drew := ((Below.refl _ wr).alloc (Nat.le_refl _) _).trans ⟨rfl, rfl, rfl, Nat.le_refl _, fun _ _ => rfl⟩
          have d2a := (hBa.cell (p := ⟨hb, 2, none⟩) (World.block_lt_of_cell? wr _ d2)).trans d2
          have qia := (hBa.cell (p := ⟨ig, io + ix, none⟩) (World.block_lt_of_cell? wr _ qi)).trans qi
          have HEnd : Hid (∀ v' w3, w3.ownsRow 0 31 1 v' (m + 1) ((headsG ids (l.take j)).map (Value.int .u64) ++ [.int .u64 idv]) → (wr.alloc (.cells #[.int .u64 idv] 31)).drew.grownBy w3 (Value.slice ad m cp).ownBlock → (v'.ownBlock = (Value.slice ad m cp).ownBlock ∨ v'.ownBlock = some (wr.alloc (.cells #[.int .u64 idv] 31)).drew.heap.size) → (w3.cell? ⟨hb, 2, none⟩ = some (.slice (some ⟨ig, io, none⟩) k ic) ∧ w3.cell? ⟨ig, io + ix, none⟩ = some (.int .u64 idv)) ∧ w3.ownsRow w.heap.size 31 1 v' (m + 1) ((headsG ids (l.take j)).map (Value.int .u64) ++ [.int .u64 idv]) ∧ Below w.heap.size w w3) := by
            intro v' w3 ho3 hg3 hat3
            have hB3 : Below w.heap.size w w3 := by
              have h1 : Below w.heap.size w (wr.alloc (.cells #[.int .u64 idv] 31)).drew := hB.trans (hBa.mono hB.size)
              exact ⟨hg3.os.trans h1.os, hg3.tape.trans h1.tape, hg3.output.trans h1.output, Nat.le_trans h1.size hg3.size, fun z hz => (hg3.block z (Nat.lt_of_lt_of_le hz h1.size) (fun e => by have := (hrow.lt z e.symm).1; omega)).trans (h1.block z hz)⟩
            have hc0 := World.block_lt_of_cell? w _ c2
            have hc9 := hci ix idv hidv
            refine ⟨⟨(hB3.cell (p := ⟨hb, 2, none⟩) hc0).trans c2, (hB3.cell (p := ⟨ig, io + ix, none⟩) (World.block_lt_of_cell? w _ hc9)).trans hc9⟩, row_high ho3 fun z hz => ?_, hB3⟩
            rcases own_or (w := wr) (o := .cells #[.int .u64 idv] 31) hat3 z hz with h | h
            · exact (hrow.lt z h).1
            · have := hB.size; omega
          clear H hx hc2 hm hrow hB hst eid hidv hix hixl hbad hci hBa
          go_upto_region 6 with fail
          refine wp_region_G (S := SB 99 (fun _ => True) (fun W => W.cell? ⟨hb, 2, none⟩ = some (.slice (some ⟨ig, io, none⟩) k ic) ∧ W.cell? ⟨ig, io + ix, none⟩ = some (.int .u64 idv))) hmx ?_
          have hSB : SB 99 (fun _ => True) (fun W => W.cell? ⟨hb, 2, none⟩ = some (.slice (some ⟨ig, io, none⟩) k ic) ∧ W.cell? ⟨ig, io + ix, none⟩ = some (.int .u64 idv)) (Array.replicate 17 false) wr.drew := SB.on trivial ⟨d2, qi⟩
          refine wpAnyG_takeP (i := 0) (v := ?_) rfl (by kernel_rfl) (by kernel_rfl) (by kernel_rfl) (fun _ _ _ h => h) rfl (Or.inl ⟨by rfl, ?_⟩) (by assumption) ?_
          rotate_left
          · intro Y hY; obtain ⟨f1, f2⟩ := hY; go_simp; try with_reducible rfl
          intro hSB0
          try simp only [Act.put, List.getElem_toArray, List.getElem_cons_zero, List.setIfInBounds_toArray, List.set_cons_zero, List.set_cons_succ]
          refine wpAnyG_takeP (i := 1) (v := ?_) rfl (by kernel_rfl) (by kernel_rfl) (by kernel_rfl) (fun _ _ _ h => h) rfl (Or.inl ⟨by rfl, ?_⟩) (by assumption) ?_
          rotate_left
          · intro Y hY; obtain ⟨f1, f2⟩ := hY; go_simp; try with_reducible rfl
          intro hSB1
          try simp only [Act.put, List.getElem_toArray, List.getElem_cons_zero, List.getElem_cons_succ, List.setIfInBounds_toArray, List.set_cons_zero, List.set_cons_succ]
          refine wpAnyG_takeP (i := 2) (v := ?_) rfl (by kernel_rfl) (by kernel_rfl) (by kernel_rfl) (fun _ _ _ h => h) rfl (Or.inl ⟨by rfl, ?_⟩) (by assumption) ?_
          rotate_left
          · intro Y hY; obtain ⟨f1, f2⟩ := hY; go_simp; try with_reducible rfl
          intro hSB2
          try simp only [Act.put, List.getElem_toArray, List.getElem_cons_zero, List.getElem_cons_succ, List.setIfInBounds_toArray, List.set_cons_zero, List.set_cons_succ]
          refine wpAnyG_takeP (i := 3) (v := ?_) rfl (by kernel_rfl) (by kernel_rfl) (by kernel_rfl) (fun _ _ _ h => h) rfl (Or.inl ⟨by rfl, ?_⟩) (by assumption) ?_
          rotate_left
          · intro Y hY; obtain ⟨f1, f2⟩ := hY; go_simp; try with_reducible rfl
          intro hSB3
          try simp only [Act.put, List.getElem_toArray, List.getElem_cons_zero, List.getElem_cons_succ, List.setIfInBounds_toArray, List.set_cons_zero, List.set_cons_succ]
          refine wpAnyG_takeP (i := 4) (v := ?_) rfl (by kernel_rfl) (by kernel_rfl) (by kernel_rfl) (fun _ _ _ h => h) rfl (Or.inl ⟨by rfl, ?_⟩) (by assumption) ?_
          rotate_left
          · intro Y hY; obtain ⟨f1, f2⟩ := hY; go_simp; try with_reducible rfl
          intro hSB4
          try simp only [Act.put, List.getElem_toArray, List.getElem_cons_zero, List.getElem_cons_succ, List.setIfInBounds_toArray, List.set_cons_zero, List.set_cons_succ]
          refine wpAnyG_takeP (i := 5) (v := ?_) rfl (by kernel_rfl) (by kernel_rfl) (by kernel_rfl) (fun _ _ _ h => h) rfl (Or.inl ⟨by rfl, ?_⟩) (by assumption) ?_
          rotate_left
          · intro Y hY; obtain ⟨f1, f2⟩ := hY; go_simp; try with_reducible rfl
          intro hSB5
          try simp only [Act.put, List.getElem_toArray, List.getElem_cons_zero, List.getElem_cons_succ, List.setIfInBounds_toArray, List.set_cons_zero, List.set_cons_succ]
          refine wpAnyG_takeP (i := 6) (v := ?_) rfl (by kernel_rfl) (by kernel_rfl) (by kernel_rfl) (fun _ _ _ h => h) rfl (Or.inl ⟨by rfl, ?_⟩) (by assumption) ?_
          rotate_left
          · intro Y hY; obtain ⟨f1, f2⟩ := hY; go_simp; try with_reducible rfl
          intro hSB6
          try simp only [Act.put, List.getElem_toArray, List.getElem_cons_zero, List.getElem_cons_succ, List.setIfInBounds_toArray, List.set_cons_zero, List.set_cons_succ]
          refine wpAnyG_takeP (i := 7) (v := ?_) rfl (by kernel_rfl) (by kernel_rfl) (by kernel_rfl) (fun _ _ _ h => h) rfl (Or.inl ⟨by rfl, ?_⟩) (by assumption) ?_
          rotate_left
          · intro Y hY; obtain ⟨f1, f2⟩ := hY; go_simp; try with_reducible rfl
          intro hSB7
          try simp only [Act.put, List.getElem_toArray, List.getElem_cons_zero, List.getElem_cons_succ, List.setIfInBounds_toArray, List.set_cons_zero, List.set_cons_succ]
          refine wpAnyG_takeP (i := 8) (v := ?_) rfl (by kernel_rfl) (by kernel_rfl) (by kernel_rfl) (fun _ _ _ h => h) rfl (Or.inl ⟨by rfl, ?_⟩) (by assumption) ?_
          rotate_left
          · intro Y hY; obtain ⟨f1, f2⟩ := hY; go_simp; try with_reducible rfl
          intro hSB8
          try simp only [Act.put, List.getElem_toArray, List.getElem_cons_zero, List.getElem_cons_succ, List.setIfInBounds_toArray, List.set_cons_zero, List.set_cons_succ]
          refine wpAnyG_takeP (i := 9) (v := ?_) rfl (by kernel_rfl) (by kernel_rfl) (by kernel_rfl) (fun _ _ _ h => h) rfl (Or.inl ⟨by rfl, ?_⟩) (by assumption) ?_
          rotate_left
          · intro Y hY; obtain ⟨f1, f2⟩ := hY; go_simp; try with_reducible rfl
          intro hSB9
          try simp only [Act.put, List.getElem_toArray, List.getElem_cons_zero, List.getElem_cons_succ, List.setIfInBounds_toArray, List.set_cons_zero, List.set_cons_succ]
          refine wpAnyG_takeP (i := 10) (v := ?_) rfl (by kernel_rfl) (by kernel_rfl) (by kernel_rfl) (fun _ _ _ h => h) rfl (Or.inl ⟨by rfl, ?_⟩) (by assumption) ?_
          rotate_left
          · intro Y hY; obtain ⟨f1, f2⟩ := hY; go_simp; try with_reducible rfl
          intro hSB10
          try simp only [Act.put, List.getElem_toArray, List.getElem_cons_zero, List.getElem_cons_succ, List.setIfInBounds_toArray, List.set_cons_zero, List.set_cons_succ]
          refine wpAnyG_takeP (i := 11) (v := ?_) rfl (by kernel_rfl) (by kernel_rfl) (by kernel_rfl) (fun _ _ _ h => h) rfl (Or.inl ⟨by rfl, ?_⟩) (by assumption) ?_
          rotate_left
          · intro Y hY; obtain ⟨f1, f2⟩ := hY; go_simp; try with_reducible rfl
          intro hSB11
          try simp only [Act.put, List.getElem_toArray, List.getElem_cons_zero, List.getElem_cons_succ, List.setIfInBounds_toArray, List.set_cons_zero, List.set_cons_succ]
          refine wpAnyG_takeP (i := 12) (v := ?_) rfl (by kernel_rfl) (by kernel_rfl) (by kernel_rfl) (fun _ _ _ h => h) rfl (Or.inl ⟨by rfl, ?_⟩) (by assumption) ?_
          rotate_left
          · intro Y hY; obtain ⟨f1, f2⟩ := hY; go_simp; try with_reducible rfl
          intro hSB12
          try simp only [Act.put, List.getElem_toArray, List.getElem_cons_zero, List.getElem_cons_succ, List.setIfInBounds_toArray, List.set_cons_zero, List.set_cons_succ]
          refine wpAnyG_takeP (i := 13) (v := ?_) rfl (by kernel_rfl) (by kernel_rfl) (by kernel_rfl) (fun _ _ _ h => h) rfl (Or.inl ⟨by rfl, ?_⟩) (by assumption) ?_
          rotate_left
          · intro Y hY; obtain ⟨f1, f2⟩ := hY; go_simp; try with_reducible rfl
          intro hSB13
          try simp only [Act.put, List.getElem_toArray, List.getElem_cons_zero, List.getElem_cons_succ, List.setIfInBounds_toArray, List.set_cons_zero, List.set_cons_succ]
          refine wpAnyG_one (i := 14) (by kernel_rfl) rfl (fun K hK => ?_)
          go_simp
          refine hK.out _ _ (SB.on trivial ⟨d2a, qia⟩) (fun hSB14 => ?_)
          clear hK K
          refine wpAnyG_one (i := 15) (by kernel_rfl) rfl (fun K hK => ?_)
          refine step_push1 _ (by rfl) _ _ 28 31 i0 _ 8 (by rfl) Tryz.underlying28 hi hzz0 hzz1 hzz2 rfl (.slice ad m cp) m _ (by rfl) hrowA wr.heap.size (.int .u64 idv) (by rfl) (cell_newD wr (.int .u64 idv) 31) rfl (by unfold maxLen; omega) (by omega) ?_
          intro v' w3 ho3 hg3 hat3
          obtain ⟨ad5, cp5, rfl, _, _⟩ := row_shapeN ho3
          obtain ⟨hS3, hr3, hB3⟩ := HEnd.out _ w3 ho3 hg3 hat3
          have H5 : Hid (w3.ownsRow w.heap.size 31 1 (.slice ad5 (m + 1) cp5) (m + 1) ((headsG ids (l.take j)).map (Value.int .u64) ++ [.int .u64 idv]) ∧ Below w.heap.size w w3) := ⟨hr3, hB3⟩
          clear hr3 hB3 ho3 hg3 hat3
          refine hK.out _ _ (SB.on trivial hS3) (fun hSB15 => ?_)
          clear hK K
          try simp only [Act.put, List.getElem_toArray, List.getElem_cons_zero, List.getElem_cons_succ, List.setIfInBounds_toArray, List.set_cons_zero, List.set_cons_succ]
          refine wpAnyG_takeP (i := 16) (v := ?_) rfl (by kernel_rfl) (by kernel_rfl) (by kernel_rfl) (fun _ _ _ h => h) rfl (Or.inl ⟨by rfl, ?_⟩) (by assumption) ?_
          rotate_left
          · intro Y hY; obtain ⟨f1, f2⟩ := hY; go_simp; try with_reducible rfl
          intro hSB16
          try simp only [Act.put, List.getElem_toArray, List.getElem_cons_zero, List.getElem_cons_succ, List.setIfInBounds_toArray, List.set_cons_zero, List.set_cons_succ]
          refine wpAnyG_done (by kernel_rfl) ?_ _
          go_wp2
          all_goals (
            go_roundg gk
            case measure => omega
            case rel => exact ⟨j + 1, m + 1, ad5, cp5, HJ.out.1, HJ.out.2, hm7, by simp, rfl, by rw [← HST.out.1, List.length_append, ← HST.out.2]; rfl, by rw [← HST.out.1, List.map_append]; exact H5.out.1, H5.out.2⟩)
end Go.Proofs.YtncagdfbgpdhfaaGreat

/- The nodes of a history and the objects of its store say the same of every id but the empty tree's; and so it is gone through in the same way. -/
namespace Go.Proofs.YtncagdfbgpdhfaaGreat

def lookT : List (Int × List Int × Bool) → Int → Option (Option (List Int))
  | [], _ => none
  | n :: r, i => if n.1 = i then some (if n.2.2 then none else some n.2.1) else lookT r i
theorem parsN_look : ∀ (ns : List Nd) (i : Int), parsN ns i = (lookT (ns.map Nd.told) i).bind id
  | [], i => rfl
  | x :: r, i => by
    simp only [parsN, List.map_cons, lookT, Nd.told]
    by_cases h : x.id = i
    · rw [if_pos h, if_pos h]; rfl
    · rw [if_neg h, if_neg h]; exact parsN_look r i
theorem errN_look : ∀ (ns : List Nd) (i : Int), errN ns i = if (lookT (ns.map Nd.told) i).isSome then 170 else 4
  | [], i => rfl
  | x :: r, i => by
    simp only [errN, List.map_cons, lookT, Nd.told]
    by_cases h : x.id = i
    · rw [if_pos h, if_pos h]; rfl
    · rw [if_neg h, if_neg h]; exact errN_look r i
theorem hasN_look : ∀ (l : List (Int × List Int × Bool)) (i : Int), hasN l i = (lookT l i).isSome
  | [], i => rfl
  | n :: r, i => by
    have ih := hasN_look r i
    unfold hasN at *
    simp only [List.any_cons, lookT]
    by_cases h : n.1 = i
    · simp [h]
    · rw [if_neg h, ← ih]; simp [h]
theorem lookT_snoc : ∀ (l : List (Int × List Int × Bool)) (n : Int × List Int × Bool) (i : Int), lookT l n.1 = none → lookT (l ++ [n]) i = if i = n.1 then some (if n.2.2 then none else some n.2.1) else lookT l i
  | [], n, i, _ => by
    simp only [List.nil_append, lookT]
    by_cases h : i = n.1
    · rw [if_pos h.symm, if_pos h]
    · rw [if_neg (fun e => h e.symm), if_neg h]
  | m :: r, n, i, h => by
    simp only [lookT] at h
    by_cases h1 : m.1 = n.1
    · rw [if_pos h1] at h; cases h
    · rw [if_neg h1] at h
      have ih := lookT_snoc r n i h
      simp only [List.cons_append, lookT]
      by_cases h2 : m.1 = i
      · rw [if_pos h2, if_neg (fun e => h1 (h2.trans e)), if_pos h2]
      · rw [if_neg h2, if_neg h2]; exact ih
theorem emptyI_99 : emptyI ≠ 99 ∧ emptyI ≠ 54321 := by
  have h : idOf (obB (.tree [])) ≠ 99 ∧ idOf (obB (.tree [])) ≠ 54321 := by decide +kernel
  exact h
/-- what holds of a history of the laws -/
structure NI (st : BS) : Prop where
  look : ∀ i, i ≠ emptyI → lookT st.nodes i = (findO st.os i).map parO
  has : findO st.os emptyI = some (.tree [])
  ids : ∀ i ∈ st.ids, i ≠ emptyI
  par : ∀ i ps, lookT st.nodes i = some (some ps) → emptyI ∉ ps
  len : st.nodes.length + 1 ≤ st.os.length
theorem backs_mem (ids back : List Int) : ∀ x ∈ backs ids back, x ∈ ids := by
  intro x hx
  unfold backs at hx
  split at hx
  · cases hx
  · rename_i h
    obtain ⟨y, _, rfl⟩ := List.mem_map.1 hx
    unfold backId
    have hl : backI ids.length ids.length y < ids.length := by unfold backI; omega
    rw [List.getElem?_eq_getElem hl, Option.getD_some]
    exact List.getElem_mem hl
theorem parsG_empty {ids : List Int} (h : ∀ i ∈ ids, i ≠ emptyI) (b : BornD) : emptyI ∉ parsG ids b := by
  intro hm
  unfold parsG at hm
  rcases List.mem_append.1 hm with hm | hm
  · exact h _ (backs_mem _ _ _ hm) rfl
  · split at hm
    · simp at hm; exact emptyI_99.2 hm
    · cases hm
theorem obG_empty (e0 : Int) (ids : List Int) (b : BornD) : obB (.tree []) ≠ obB (obG e0 ids b) := by
  intro h
  unfold obG at h
  have h1 := congrArg List.head? h
  split at h1
  · simp [obB, treeB] at h1
  · simp [obB, treeB, comBB, comB] at h1
theorem obG_par (e0 : Int) (ids : List Int) (b : BornD) : parO (obG e0 ids b) = if b.blob then none else some (parsG ids b) := by
  unfold obG
  split
  · rfl
  · rfl
theorem NI.step {st st' : BS} {b : BornD} (h : NI st) (hs : stepB emptyI st b = some st') : NI st' := by
  have hpe := parsG_empty h.ids b
  have hpo := obG_par emptyI st.ids b
  have hoe := obG_empty emptyI st.ids b
  unfold stepB at hs
  generalize obG emptyI st.ids b = o at *
  unfold putG at hs
  cases hf : findO st.os (oid o) with
  | none =>
    have hne : oid o ≠ emptyI := fun e => by rw [e, h.has] at hf; cases hf
    have hlk : lookT st.nodes (oid o) = none := by rw [h.look _ hne, hf]; rfl
    simp only [hf] at hs
    split at hs
    · cases hs
    · rw [hasN_look, hlk] at hs
      simp only [Option.isSome_none, Bool.false_eq_true, if_false, Option.some.injEq] at hs
      subst hs
      refine ⟨fun i hi => ?_, ?_, fun i hi => ?_, fun i ps hi => ?_, ?_⟩
      · show lookT (st.nodes ++ [(oid o, parsG st.ids b, b.blob)]) i = (findO (st.os ++ [o]) i).map parO
        rw [lookT_snoc _ _ _ hlk, findO_snoc _ _ _ hf]
        by_cases h1 : i = oid o
        · rw [if_pos h1, if_pos h1, Option.map_some, hpo]
        · rw [if_neg h1, if_neg h1]; exact h.look i hi
      · show findO (st.os ++ [o]) emptyI = _
        rw [findO_snoc _ _ _ hf, if_neg (fun e => hne e.symm)]; exact h.has
      · rcases List.mem_append.1 hi with hi | hi
        · exact h.ids i hi
        · simp at hi; subst hi; exact hne
      · have hi' : lookT (st.nodes ++ [(oid o, parsG st.ids b, b.blob)]) i = some (some ps) := hi
        rw [lookT_snoc _ _ _ hlk] at hi'
        by_cases h1 : i = oid o
        · rw [if_pos h1] at hi'
          simp only [Option.some.injEq] at hi'
          split at hi'
          · cases hi'
          · simp only [Option.some.injEq] at hi'
            subst hi'
            exact hpe
        · rw [if_neg h1] at hi'
          exact h.par i ps hi'
      · show (st.nodes ++ [_]).length + 1 ≤ (st.os ++ [o]).length
        rw [List.length_append, List.length_append]
        have := h.len
        simp only [List.length_cons, List.length_nil]
        omega
  | some p =>
    simp only [hf] at hs
    by_cases hb : obB p = obB o
    · rw [if_pos hb] at hs
      have hne : oid o ≠ emptyI := fun e => by
        rw [e, h.has] at hf
        cases hf
        exact hoe hb
      have hlk : (lookT st.nodes (oid o)).isSome = true := by rw [h.look _ hne, hf]; rfl
      simp only at hs
      split at hs
      · cases hs
      · rw [hasN_look, hlk] at hs
        simp only [if_true, Option.some.injEq] at hs
        subst hs
        exact ⟨h.look, h.has, fun i hi => by
          rcases List.mem_append.1 hi with hi | hi
          · exact h.ids i hi
          · simp at hi; subst hi; exact hne, h.par, h.len⟩
    · rw [if_neg hb] at hs
      simp at hs
theorem NI.go : ∀ (l : List BornD) (st st' : BS), NI st → bornL emptyI l st = some st' → NI st'
  | [], st, st', h, e => by simp only [bornL, Option.some.injEq] at e; subst e; exact h
  | b :: r, st, st', h, e => by
    simp only [bornL] at e
    cases hs : stepB emptyI st b with
    | none => rw [hs] at e; cases e
    | some s1 => rw [hs] at e; exact NI.go r s1 st' (h.step hs) e
theorem bornG_ni {l : List BornD} {st : BS} (h : bornG l = some st) : NI st := by
  refine NI.go _ _ _ ?_ h
  refine ⟨fun i hi => ?_, findO_one _, by simp, by simp [lookT], by simp⟩
  have : findO [.tree []] i = none := by
    unfold findO
    rw [List.find?_eq_none]
    intro x hx
    simp only [List.mem_singleton] at hx
    subst hx
    simp only [beq_iff_eq]
    exact fun e => hi e.symm
  show lookT [] i = (findO [.tree []] i).map parO
  rw [this]
  rfl
theorem visit_same {P Q : Int → Option (List Int)} {ge ke : Int → Int} {X : Int} (h1 : ∀ i, i ≠ X → P i = Q i) (h2 : ∀ i, i ≠ X → ge i = ke i) (h3 : ∀ i ps, i ≠ X → P i = some ps → X ∉ ps) :
    ∀ (f : Nat), (∀ x s, x ≠ X → visit P ge f x s = visit Q ke f x s) ∧ ∀ (l : List Int) (s : GS), X ∉ l → goL (visit P ge f) l s = goL (visit Q ke f) l s := by
  have hgo : ∀ f, (∀ x s, x ≠ X → visit P ge f x s = visit Q ke f x s) → ∀ (l : List Int) (s : GS), X ∉ l → goL (visit P ge f) l s = goL (visit Q ke f) l s := by
    intro f hv l
    induction l with
    | nil => intro s _; rfl
    | cons x r ih =>
      intro s hl
      simp only [goL]
      rw [hv x s (fun e => hl (by simp [e]))]
      cases visit Q ke f x s with
      | bad e => rfl
      | ok s' => exact ih s' (fun e => hl (by simp [e]))
  intro f
  have hv : ∀ x s, x ≠ X → visit P ge f x s = visit Q ke f x s := by
    induction f with
    | zero => intro x s _; rfl
    | succ f ih =>
      intro x s hx
      simp only [visit]
      rw [← h1 x hx, ← h2 x hx]
      cases hp : P x with
      | none => rfl
      | some ps =>
        simp only
        rw [hgo f ih ps _ (h3 x ps hx hp)]
  exact ⟨hv, hgo f hv⟩
/-- the order of the document is the program's -/
theorem ord_same {st : BS} (h : NI st) (ns : List Nd) (hn : ns.map Nd.told = st.nodes) (l : List Int) (hl : emptyI ∉ l) : goL (visit (parsN ns) (errN ns) (st.os.length + 2)) l GS.none = ordG st.os l GS.none := by
  refine (visit_same (X := emptyI) (fun i hi => ?_) (fun i hi => ?_) (fun i ps hi hp => ?_) _).2 l _ hl
  · rw [parsN_look, hn, h.look i hi]
    unfold parsO
    cases findO st.os i <;> rfl
  · rw [errN_look, hn, h.look i hi]
    unfold errO
    cases findO st.os i <;> rfl
  · rw [parsN_look, hn] at hp
    cases hq : lookT st.nodes i with
    | none => rw [hq] at hp; cases hp
    | some y =>
      rw [hq] at hp
      have : y = some ps := hp
      subst this
      exact h.par i ps hq
theorem heads_empty {ids : List Int} (h : ∀ i ∈ ids, i ≠ emptyI) (l : List Int) : emptyI ∉ headsG ids l := by
  intro hm
  unfold headsG at hm
  obtain ⟨y, _, hy⟩ := List.mem_map.1 hm
  unfold headId at hy
  split at hy
  · exact emptyI_99.1 hy.symm
  · rename_i h0
    have hl : y.toNat % ids.length < ids.length := Nat.mod_lt _ (by omega)
    rw [List.getElem?_eq_getElem hl, Option.getD_some] at hy
    exact h _ (List.getElem_mem hl) hy
end Go.Proofs.YtncagdfbgpdhfaaGreat
