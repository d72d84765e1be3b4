import Derived.Test.YtncagdfbgpdhfaaGreatQ43
import Derived.Test.YtncagdfbgpdhfaaGreatQ36
import Derived.Test.YtncagdfbgpdhfaaGreatQ40
import Derived.Test.YtncagdfbgpdhfaaGreatQ34
/- Law 12's some: ids of a history, by numbers (mksome.py out of GHeads). -/
namespace Go.Proofs.YtncagdfbgpdhfaaGreat
open Go.RowKit Go.Maps

attribute [local go_sem] Oper.semAt_some

def someId (ids : List Int) (x : Int) : Int := if x < 0 ∨ ids.length = 0 then 54321 else (ids[x.toNat % ids.length]?).getD 0
def someG (ids : List Int) (l : List Int) : List Int := (l.take 10).map (someId ids)
theorem someG_take (ids l : List Int) (k : Nat) (x : Int) (h8 : k < 10) (h : l[k]? = some x) : (someG ids (l.take k)) ++ [someId ids x] = someG ids (l.take (k + 1)) := by
  have hk := (List.getElem?_eq_some_iff.1 h).1
  have hx : l[k] = x := (List.getElem?_eq_some_iff.1 h).2
  unfold someG
  rw [List.take_take, List.take_take, show min 10 k = k by omega, show min 10 (k + 1) = k + 1 by omega, List.take_succ_eq_append_getElem hk, hx]
  simp
theorem someG_len (ids l : List Int) : (someG ids l).length ≤ 10 := by unfold someG; rw [List.length_map, List.length_take]; omega
theorem someId_rng {ids : List Int} (hr : ∀ i ∈ ids, 0 ≤ i ∧ i ≤ 18446744073709551615) (x : Int) : 0 ≤ someId ids x ∧ someId ids x ≤ 18446744073709551615 := by
  unfold someId
  split
  · omega
  · rename_i h
    have hl : x.toNat % ids.length < ids.length := Nat.mod_lt _ (by omega)
    rw [List.getElem?_eq_getElem hl, Option.getD_some]
    exact hr _ (List.getElem_mem hl)
theorem someG_rng {ids : List Int} (hr : ∀ i ∈ ids, 0 ≤ i ∧ i ≤ 18446744073709551615) (l : List Int) : ∀ x ∈ someG ids l, 0 ≤ x ∧ x ≤ 18446744073709551615 := by
  intro x hx
  unfold someG at hx
  obtain ⟨y, _, rfl⟩ := List.mem_map.1 hx
  exact someId_rng hr y

set_option maxRecDepth 100000 in
set_option maxHeartbeats 4000000 in
theorem some12_any (w : World) (hb k ic : Nat) (ia : Option Addr) (ids : List Int) (c2 : w.cell? ⟨hb, 2, none⟩ = some (.slice ia k ic)) (hids : Ids w ia k ids) (hk : k ≤ 1000000) (a : Option Addr) (n c : Nat) (l : List Int) (hl : Ints w a n l) (hn : n ≤ 9223372036854775807) (hlr : ∀ x ∈ l, -9223372036854775808 ≤ x ∧ x ≤ 9223372036854775807) :
    Calls Tryz.prog 11 #[.pointer (some ⟨hb, 0, none⟩), .slice a n c] w fun e w' => ∃ ad cp, e = .returned (.slice ad (someG ids l).length cp) ∧ w'.ownsRow w.heap.size 31 1 (.slice ad (someG ids l).length cp) (someG ids l).length ((someG ids l).map (Value.int .u64)) ∧ Below w.heap.size w w' := by
  have hll := hl.1
  have hil := hids.1
  obtain ⟨i0, hi, hzz0, hzz1, hzz2⟩ := info_parts infoIdG
  have hmx : Tryz.prog.follows .mixedOrders = true := by kernel_rfl
  obtain ⟨R, hR⟩ : ∃ R, R = someG ids l := ⟨_, rfl⟩
  have HR : Hid (R = someG ids l) := hR
  rw [← hR]
  clear hR
  have HL : Hid (Ints w a n l ∧ Ids w ia k ids ∧ (∀ x ∈ l, -9223372036854775808 ≤ x ∧ x ≤ 9223372036854775807) ∧ l.length = n ∧ ids.length = k) := ⟨hl, hids, hlr, hll, hil⟩
  clear hl hids hlr hll hil
  go_enter Tryz.func11, Tryz.ntmps11
  go_wp2
  go_loopg [5, 10] n (fun g v i wr => ∃ (j m : Nat) (ad : Option Addr) (cp : Nat), j + g = n ∧ j ≤ 10 ∧ m ≤ 10 ∧ i = .int .i64 (j : Int) ∧ v = .slice ad m cp ∧ Hid (m = (someG ids (l.take j)).length ∧ wr.ownsRow w.heap.size 31 1 (.slice ad m cp) m ((someG ids (l.take j)).map (Value.int .u64)) ∧ Below w.heap.size w wr))
  case atStart => exact ⟨0, 0, none, 0, by omega, by omega, by omega, rfl, rfl, rfl, World.ownsRow_nil _ _ _ _, Below.refl _ _⟩
  case round =>
    obtain ⟨j, m, ad, cp, hj, hj8, hm8, rfl, rfl, H⟩ := hrel
    cases gk with
    | zero =>
      obtain rfl : j = n := by omega
      have i2 : ¬ (j : Int) < (j : Int) := by omega
      have HE : Hid (m = R.length ∧ wr.ownsRow w.heap.size 31 1 (.slice ad m cp) m (R.map (Value.int .u64)) ∧ Below w.heap.size w wr) := by
        have h1 := H.out
        rw [List.take_of_length_le (by rw [HL.out.2.2.2.1]; exact Nat.le_refl _), ← HR.out] at h1
        exact h1
      clear H
      go_wp2
      go_ret
      obtain ⟨h1, h2, h3⟩ := HE.out
      exact ⟨ad, cp, by rw [← h1]; rfl, by rw [← h1]; exact h2, h3⟩
    | succ gk =>
      have hjl : j < n := by omega
      obtain ⟨x, hx⟩ : ∃ x, l[j]? = some x := ⟨_, List.getElem?_eq_getElem (by rw [HL.out.2.2.2.1]; omega)⟩
      obtain ⟨b2, o2, hba, hc2⟩ := HL.out.1.2 (by omega)
      subst hba
      obtain ⟨hm, hrow, hB⟩ := H.out
      have q0 := (hB.cell (p := ⟨b2, o2 + j, none⟩) (World.block_lt_of_cell? w _ (hc2 j x hx))).trans (hc2 j x hx)
      have d2 := (hB.cell (p := ⟨hb, 2, none⟩) (World.block_lt_of_cell? w _ c2)).trans c2
      have hxr := HL.out.2.2.1 x (List.mem_of_getElem? hx)
      have i2 : (j : Int) < (n : Int) := by omega
      have i3 : ¬ n ≤ j := by omega
      by_cases h8 : j = 10
      · subst h8
        have HE : Hid (m = R.length ∧ wr.ownsRow w.heap.size 31 1 (.slice ad m cp) m (R.map (Value.int .u64)) ∧ Below w.heap.size w wr) := by
          have e : someG ids (l.take 10) = someG ids l := by unfold someG; rw [List.take_take, Nat.min_self]
          have h1 := H.out
          rw [e, ← HR.out] at h1
          exact h1
        clear H hx hc2 hm hrow hB
        go_wp2
        go_ret
        obtain ⟨h1, h2, h3⟩ := HE.out
        exact ⟨ad, cp, by rw [← h1]; rfl, by rw [← h1]; exact h2, h3⟩
      · have h8' : ((j : Int) == 10) = false := by simp; omega
        have h8'' : ¬ (j : Int) = 10 := by omega
        have hst := someG_take ids l j x (by omega) hx
        have HJ : Hid (j + 1 + gk = n ∧ j + 1 ≤ 10) := ⟨by omega, by omega⟩
        by_cases hbad : x < 0 ∨ k = 0
        · have e99 : someId ids x = 54321 := by unfold someId; rw [HL.out.2.2.2.2, if_pos hbad]
          rw [e99] at hst
          have hr1 := hrow.alloc (.cells #[.int .u64 54321] 31)
          have HSZ : Hid (w.heap.size ≤ (wr.alloc (.cells #[.int .u64 54321] 31)).heap.size) := by have := hB.size; show _ ≤ _; rw [World.size_alloc]; omega
          have HB : Hid (Below w.heap.size w (wr.alloc (.cells #[.int .u64 54321] 31))) := hB.alloc hB.size _
          have HST : Hid (someG ids (l.take j) ++ [54321] = someG ids (l.take (j + 1)) ∧ m = (someG ids (l.take j)).length) := ⟨hst, hm⟩
          have hm7 : m + 1 ≤ 10 := by have := someG_len ids (l.take (j + 1)); rw [← hst, List.length_append] at this; simp at this; omega
          clear H hx hc2 hm hrow hB hst e99
          rcases hbad with hneg | hz
          · go_wp2_with
              (at_builtin
               refine wpList_append_own_at _ rfl _ _ 28 rfl w.heap.size 31 i0 _ 1 8 Tryz.underlying28 hi hzz0 hzz1 hzz2 rfl (by decide) _ m _ rfl hr1 ⟨_, 0, none⟩ 1 1 [.int .u64 54321] rfl rfl (cell_one_new _ _ _) (by simp [Value.oneCell']) (by unfold maxLen; omega) (by omega) HSZ.out ?_
               intro v' w5 hown5 hgr5 _ _
               have H5 : Hid (w5.ownsRow w.heap.size 31 1 v' (m + 1) ((someG ids (l.take j)).map (Value.int .u64) ++ [.int .u64 54321]) ∧ Below w.heap.size w w5) := ⟨hown5, HB.out.trans (below_gr1 hr1 HSZ.out hgr5)⟩
               clear hgr5
               obtain ⟨ad5, cp5, hv5, _⟩ := row_shapeN hown5
               clear hown5
               subst hv5)
            go_roundg gk
            case measure => omega
            case rel => exact ⟨j + 1, m + 1, ad5, cp5, HJ.out.1, HJ.out.2, hm7, by simp, rfl, by rw [← HST.out.1, List.length_append, ← HST.out.2]; rfl, by rw [← HST.out.1, List.map_append]; exact H5.out.1, H5.out.2⟩
          · subst hz
            by_cases hneg : x < 0
            · go_wp2_with
                (at_builtin
                 refine wpList_append_own_at _ rfl _ _ 28 rfl w.heap.size 31 i0 _ 1 8 Tryz.underlying28 hi hzz0 hzz1 hzz2 rfl (by decide) _ m _ rfl hr1 ⟨_, 0, none⟩ 1 1 [.int .u64 54321] rfl rfl (cell_one_new _ _ _) (by simp [Value.oneCell']) (by unfold maxLen; omega) (by omega) HSZ.out ?_
                 intro v' w5 hown5 hgr5 _ _
                 have H5 : Hid (w5.ownsRow w.heap.size 31 1 v' (m + 1) ((someG ids (l.take j)).map (Value.int .u64) ++ [.int .u64 54321]) ∧ Below w.heap.size w w5) := ⟨hown5, HB.out.trans (below_gr1 hr1 HSZ.out hgr5)⟩
                 clear hgr5
                 obtain ⟨ad5, cp5, hv5, _⟩ := row_shapeN hown5
                 clear hown5
                 subst hv5)
              go_roundg gk
              case measure => omega
              case rel => exact ⟨j + 1, m + 1, ad5, cp5, HJ.out.1, HJ.out.2, hm7, by simp, rfl, by rw [← HST.out.1, List.length_append, ← HST.out.2]; rfl, by rw [← HST.out.1, List.map_append]; exact H5.out.1, H5.out.2⟩
            · go_wp2_with
                (at_builtin
                 refine wpList_append_own_at _ rfl _ _ 28 rfl w.heap.size 31 i0 _ 1 8 Tryz.underlying28 hi hzz0 hzz1 hzz2 rfl (by decide) _ m _ rfl hr1 ⟨_, 0, none⟩ 1 1 [.int .u64 54321] rfl rfl (cell_one_new _ _ _) (by simp [Value.oneCell']) (by unfold maxLen; omega) (by omega) HSZ.out ?_
                 intro v' w5 hown5 hgr5 _ _
                 have H5 : Hid (w5.ownsRow w.heap.size 31 1 v' (m + 1) ((someG ids (l.take j)).map (Value.int .u64) ++ [.int .u64 54321]) ∧ Below w.heap.size w w5) := ⟨hown5, HB.out.trans (below_gr1 hr1 HSZ.out hgr5)⟩
                 clear hgr5
                 obtain ⟨ad5, cp5, hv5, _⟩ := row_shapeN hown5
                 clear hown5
                 subst hv5)
              go_roundg gk
              case measure => omega
              case rel => exact ⟨j + 1, m + 1, ad5, cp5, HJ.out.1, HJ.out.2, hm7, by simp, rfl, by rw [← HST.out.1, List.length_append, ← HST.out.2]; rfl, by rw [← HST.out.1, List.map_append]; exact H5.out.1, H5.out.2⟩
        · have hx0 : ¬ x < 0 := fun h => hbad (.inl h)
          have hk0 : ¬ k = 0 := fun h => hbad (.inr h)
          obtain ⟨ix, hix⟩ : ∃ ix, ix = x.toNat % k := ⟨_, rfl⟩
          have hixl : ix < k := by rw [hix]; exact Nat.mod_lt _ (by omega)
          obtain ⟨idv, hidv⟩ : ∃ idv, ids[ix]? = some idv := ⟨_, List.getElem?_eq_getElem (by rw [HL.out.2.2.2.2]; exact hixl)⟩
          have eid : someId ids x = idv := by
            unfold someId
            rw [HL.out.2.2.2.2, if_neg hbad, ← hix, hidv]
            rfl
          rw [eid] at hst
          obtain ⟨ig, io, hia, hci⟩ := HL.out.2.1.2 (by omega)
          subst hia
          have qi := (hB.cell (p := ⟨ig, io + ix, none⟩) (World.block_lt_of_cell? w _ (hci ix idv hidv))).trans (hci ix idv hidv)
          have hIX : x.tmod (k : Int) = (ix : Int) := by
            have h1 : x = ((x.toNat : Nat) : Int) := by omega
            rw [h1, hix]
            rfl
          have hix1 : (ix : Int) < (k : Int) := by omega
          have hix2 : (0 : Int) ≤ (ix : Int) := by omega
          have hix3 : ¬ k ≤ ix := by omega
          have kp : ¬ (k : Int) = 0 := by omega
          have hrowA := ((row_low hrow (Nat.zero_le _)).alloc (.cells #[.int .u64 idv] 31)).drew
          have HST : Hid (someG ids (l.take j) ++ [idv] = someG ids (l.take (j + 1)) ∧ m = (someG ids (l.take j)).length) := ⟨hst, hm⟩
          have hm7 : m + 1 ≤ 10 := by have := someG_len ids (l.take (j + 1)); rw [← hst, List.length_append] at this; simp at this; omega
          have hBa : Below wr.heap.size wr (wr.alloc (.cells #[.int .u64 idv] 31)).drew := ((Below.refl _ wr).alloc (Nat.le_refl _) _).trans ⟨rfl, rfl, rfl, Nat.le_refl _, fun _ _ => rfl⟩
          have d2a := (hBa.cell (p := ⟨hb, 2, none⟩) (World.block_lt_of_cell? wr _ d2)).trans d2
          have qia := (hBa.cell (p := ⟨ig, io + ix, none⟩) (World.block_lt_of_cell? wr _ qi)).trans qi
          have HEnd : Hid (∀ v' w3, w3.ownsRow 0 31 1 v' (m + 1) ((someG ids (l.take j)).map (Value.int .u64) ++ [.int .u64 idv]) → (wr.alloc (.cells #[.int .u64 idv] 31)).drew.grownBy w3 (Value.slice ad m cp).ownBlock → (v'.ownBlock = (Value.slice ad m cp).ownBlock ∨ v'.ownBlock = some (wr.alloc (.cells #[.int .u64 idv] 31)).drew.heap.size) → (w3.cell? ⟨hb, 2, none⟩ = some (.slice (some ⟨ig, io, none⟩) k ic) ∧ w3.cell? ⟨ig, io + ix, none⟩ = some (.int .u64 idv)) ∧ w3.ownsRow w.heap.size 31 1 v' (m + 1) ((someG ids (l.take j)).map (Value.int .u64) ++ [.int .u64 idv]) ∧ Below w.heap.size w w3) := by
            intro v' w3 ho3 hg3 hat3
            have hB3 : Below w.heap.size w w3 := by
              have h1 : Below w.heap.size w (wr.alloc (.cells #[.int .u64 idv] 31)).drew := hB.trans (hBa.mono hB.size)
              exact ⟨hg3.os.trans h1.os, hg3.tape.trans h1.tape, hg3.output.trans h1.output, Nat.le_trans h1.size hg3.size, fun z hz => (hg3.block z (Nat.lt_of_lt_of_le hz h1.size) (fun e => by have := (hrow.lt z e.symm).1; omega)).trans (h1.block z hz)⟩
            have hc0 := World.block_lt_of_cell? w _ c2
            have hc9 := hci ix idv hidv
            refine ⟨⟨(hB3.cell (p := ⟨hb, 2, none⟩) hc0).trans c2, (hB3.cell (p := ⟨ig, io + ix, none⟩) (World.block_lt_of_cell? w _ hc9)).trans hc9⟩, row_high ho3 fun z hz => ?_, hB3⟩
            rcases own_or (w := wr) (o := .cells #[.int .u64 idv] 31) hat3 z hz with h | h
            · exact (hrow.lt z h).1
            · have := hB.size; omega
          clear H hx hc2 hm hrow hB hst eid hidv hix hixl hbad hci hBa
          go_upto_region 8 with fail
          refine wp_region_G (S := SB 99 (fun _ => True) (fun W => W.cell? ⟨hb, 2, none⟩ = some (.slice (some ⟨ig, io, none⟩) k ic) ∧ W.cell? ⟨ig, io + ix, none⟩ = some (.int .u64 idv))) hmx ?_
          have hSB : SB 99 (fun _ => True) (fun W => W.cell? ⟨hb, 2, none⟩ = some (.slice (some ⟨ig, io, none⟩) k ic) ∧ W.cell? ⟨ig, io + ix, none⟩ = some (.int .u64 idv)) (Array.replicate 17 false) wr.drew := SB.on trivial ⟨d2, qi⟩
          refine wpAnyG_takeP (i := 0) (v := ?_) rfl (by kernel_rfl) (by kernel_rfl) (by kernel_rfl) (fun _ _ _ h => h) rfl (Or.inl ⟨by rfl, ?_⟩) (by assumption) ?_
          rotate_left
          · intro Y hY; obtain ⟨f1, f2⟩ := hY; go_simp; try with_reducible rfl
          intro hSB0
          try simp only [Act.put, List.getElem_toArray, List.getElem_cons_zero, List.setIfInBounds_toArray, List.set_cons_zero, List.set_cons_succ]
          refine wpAnyG_takeP (i := 1) (v := ?_) rfl (by kernel_rfl) (by kernel_rfl) (by kernel_rfl) (fun _ _ _ h => h) rfl (Or.inl ⟨by rfl, ?_⟩) (by assumption) ?_
          rotate_left
          · intro Y hY; obtain ⟨f1, f2⟩ := hY; go_simp; try with_reducible rfl
          intro hSB1
          try simp only [Act.put, List.getElem_toArray, List.getElem_cons_zero, List.getElem_cons_succ, List.setIfInBounds_toArray, List.set_cons_zero, List.set_cons_succ]
          refine wpAnyG_takeP (i := 2) (v := ?_) rfl (by kernel_rfl) (by kernel_rfl) (by kernel_rfl) (fun _ _ _ h => h) rfl (Or.inl ⟨by rfl, ?_⟩) (by assumption) ?_
          rotate_left
          · intro Y hY; obtain ⟨f1, f2⟩ := hY; go_simp; try with_reducible rfl
          intro hSB2
          try simp only [Act.put, List.getElem_toArray, List.getElem_cons_zero, List.getElem_cons_succ, List.setIfInBounds_toArray, List.set_cons_zero, List.set_cons_succ]
          refine wpAnyG_takeP (i := 3) (v := ?_) rfl (by kernel_rfl) (by kernel_rfl) (by kernel_rfl) (fun _ _ _ h => h) rfl (Or.inl ⟨by rfl, ?_⟩) (by assumption) ?_
          rotate_left
          · intro Y hY; obtain ⟨f1, f2⟩ := hY; go_simp; try with_reducible rfl
          intro hSB3
          try simp only [Act.put, List.getElem_toArray, List.getElem_cons_zero, List.getElem_cons_succ, List.setIfInBounds_toArray, List.set_cons_zero, List.set_cons_succ]
          refine wpAnyG_takeP (i := 4) (v := ?_) rfl (by kernel_rfl) (by kernel_rfl) (by kernel_rfl) (fun _ _ _ h => h) rfl (Or.inl ⟨by rfl, ?_⟩) (by assumption) ?_
          rotate_left
          · intro Y hY; obtain ⟨f1, f2⟩ := hY; go_simp; try with_reducible rfl
          intro hSB4
          try simp only [Act.put, List.getElem_toArray, List.getElem_cons_zero, List.getElem_cons_succ, List.setIfInBounds_toArray, List.set_cons_zero, List.set_cons_succ]
          refine wpAnyG_takeP (i := 5) (v := ?_) rfl (by kernel_rfl) (by kernel_rfl) (by kernel_rfl) (fun _ _ _ h => h) rfl (Or.inl ⟨by rfl, ?_⟩) (by assumption) ?_
          rotate_left
          · intro Y hY; obtain ⟨f1, f2⟩ := hY; go_simp; try with_reducible rfl
          intro hSB5
          try simp only [Act.put, List.getElem_toArray, List.getElem_cons_zero, List.getElem_cons_succ, List.setIfInBounds_toArray, List.set_cons_zero, List.set_cons_succ]
          refine wpAnyG_takeP (i := 6) (v := ?_) rfl (by kernel_rfl) (by kernel_rfl) (by kernel_rfl) (fun _ _ _ h => h) rfl (Or.inl ⟨by rfl, ?_⟩) (by assumption) ?_
          rotate_left
          · intro Y hY; obtain ⟨f1, f2⟩ := hY; go_simp; try with_reducible rfl
          intro hSB6
          try simp only [Act.put, List.getElem_toArray, List.getElem_cons_zero, List.getElem_cons_succ, List.setIfInBounds_toArray, List.set_cons_zero, List.set_cons_succ]
          refine wpAnyG_takeP (i := 7) (v := ?_) rfl (by kernel_rfl) (by kernel_rfl) (by kernel_rfl) (fun _ _ _ h => h) rfl (Or.inl ⟨by rfl, ?_⟩) (by assumption) ?_
          rotate_left
          · intro Y hY; obtain ⟨f1, f2⟩ := hY; go_simp; try with_reducible rfl
          intro hSB7
          try simp only [Act.put, List.getElem_toArray, List.getElem_cons_zero, List.getElem_cons_succ, List.setIfInBounds_toArray, List.set_cons_zero, List.set_cons_succ]
          refine wpAnyG_takeP (i := 8) (v := ?_) rfl (by kernel_rfl) (by kernel_rfl) (by kernel_rfl) (fun _ _ _ h => h) rfl (Or.inl ⟨by rfl, ?_⟩) (by assumption) ?_
          rotate_left
          · intro Y hY; obtain ⟨f1, f2⟩ := hY; go_simp; try with_reducible rfl
          intro hSB8
          try simp only [Act.put, List.getElem_toArray, List.getElem_cons_zero, List.getElem_cons_succ, List.setIfInBounds_toArray, List.set_cons_zero, List.set_cons_succ]
          refine wpAnyG_takeP (i := 9) (v := ?_) rfl (by kernel_rfl) (by kernel_rfl) (by kernel_rfl) (fun _ _ _ h => h) rfl (Or.inl ⟨by rfl, ?_⟩) (by assumption) ?_
          rotate_left
          · intro Y hY; obtain ⟨f1, f2⟩ := hY; go_simp; try with_reducible rfl
          intro hSB9
          try simp only [Act.put, List.getElem_toArray, List.getElem_cons_zero, List.getElem_cons_succ, List.setIfInBounds_toArray, List.set_cons_zero, List.set_cons_succ]
          refine wpAnyG_takeP (i := 10) (v := ?_) rfl (by kernel_rfl) (by kernel_rfl) (by kernel_rfl) (fun _ _ _ h => h) rfl (Or.inl ⟨by rfl, ?_⟩) (by assumption) ?_
          rotate_left
          · intro Y hY; obtain ⟨f1, f2⟩ := hY; go_simp; try with_reducible rfl
          intro hSB10
          try simp only [Act.put, List.getElem_toArray, List.getElem_cons_zero, List.getElem_cons_succ, List.setIfInBounds_toArray, List.set_cons_zero, List.set_cons_succ]
          refine wpAnyG_takeP (i := 11) (v := ?_) rfl (by kernel_rfl) (by kernel_rfl) (by kernel_rfl) (fun _ _ _ h => h) rfl (Or.inl ⟨by rfl, ?_⟩) (by assumption) ?_
          rotate_left
          · intro Y hY; obtain ⟨f1, f2⟩ := hY; go_simp; try with_reducible rfl
          intro hSB11
          try simp only [Act.put, List.getElem_toArray, List.getElem_cons_zero, List.getElem_cons_succ, List.setIfInBounds_toArray, List.set_cons_zero, List.set_cons_succ]
          refine wpAnyG_takeP (i := 12) (v := ?_) rfl (by kernel_rfl) (by kernel_rfl) (by kernel_rfl) (fun _ _ _ h => h) rfl (Or.inl ⟨by rfl, ?_⟩) (by assumption) ?_
          rotate_left
          · intro Y hY; obtain ⟨f1, f2⟩ := hY; go_simp; try with_reducible rfl
          intro hSB12
          try simp only [Act.put, List.getElem_toArray, List.getElem_cons_zero, List.getElem_cons_succ, List.setIfInBounds_toArray, List.set_cons_zero, List.set_cons_succ]
          refine wpAnyG_takeP (i := 13) (v := ?_) rfl (by kernel_rfl) (by kernel_rfl) (by kernel_rfl) (fun _ _ _ h => h) rfl (Or.inl ⟨by rfl, ?_⟩) (by assumption) ?_
          rotate_left
          · intro Y hY; obtain ⟨f1, f2⟩ := hY; go_simp; try with_reducible rfl
          intro hSB13
          try simp only [Act.put, List.getElem_toArray, List.getElem_cons_zero, List.getElem_cons_succ, List.setIfInBounds_toArray, List.set_cons_zero, List.set_cons_succ]
          refine wpAnyG_one (i := 14) (by kernel_rfl) rfl (fun K hK => ?_)
          go_simp
          refine hK.out _ _ (SB.on trivial ⟨d2a, qia⟩) (fun hSB14 => ?_)
          clear hK K
          refine wpAnyG_one (i := 15) (by kernel_rfl) rfl (fun K hK => ?_)
          refine step_push1 _ (by rfl) _ _ 28 31 i0 _ 8 (by rfl) Tryz.underlying28 hi hzz0 hzz1 hzz2 rfl (.slice ad m cp) m _ (by rfl) hrowA wr.heap.size (.int .u64 idv) (by rfl) (cell_newD wr (.int .u64 idv) 31) rfl (by unfold maxLen; omega) (by omega) ?_
          intro v' w3 ho3 hg3 hat3
          obtain ⟨ad5, cp5, rfl, _, _⟩ := row_shapeN ho3
          obtain ⟨hS3, hr3, hB3⟩ := HEnd.out _ w3 ho3 hg3 hat3
          have H5 : Hid (w3.ownsRow w.heap.size 31 1 (.slice ad5 (m + 1) cp5) (m + 1) ((someG ids (l.take j)).map (Value.int .u64) ++ [.int .u64 idv]) ∧ Below w.heap.size w w3) := ⟨hr3, hB3⟩
          clear hr3 hB3 ho3 hg3 hat3
          refine hK.out _ _ (SB.on trivial hS3) (fun hSB15 => ?_)
          clear hK K
          try simp only [Act.put, List.getElem_toArray, List.getElem_cons_zero, List.getElem_cons_succ, List.setIfInBounds_toArray, List.set_cons_zero, List.set_cons_succ]
          refine wpAnyG_takeP (i := 16) (v := ?_) rfl (by kernel_rfl) (by kernel_rfl) (by kernel_rfl) (fun _ _ _ h => h) rfl (Or.inl ⟨by rfl, ?_⟩) (by assumption) ?_
          rotate_left
          · intro Y hY; obtain ⟨f1, f2⟩ := hY; go_simp; try with_reducible rfl
          intro hSB16
          try simp only [Act.put, List.getElem_toArray, List.getElem_cons_zero, List.getElem_cons_succ, List.setIfInBounds_toArray, List.set_cons_zero, List.set_cons_succ]
          refine wpAnyG_done (by kernel_rfl) ?_ _
          go_wp2
          all_goals (
            go_roundg gk
            case measure => omega
            case rel => exact ⟨j + 1, m + 1, ad5, cp5, HJ.out.1, HJ.out.2, hm7, by simp, rfl, by rw [← HST.out.1, List.length_append, ← HST.out.2]; rfl, by rw [← HST.out.1, List.map_append]; exact H5.out.1, H5.out.2⟩)
end Go.Proofs.YtncagdfbgpdhfaaGreat

/- The walks of Apart and Relation. -/
namespace Go.Proofs.YtncagdfbgpdhfaaGreat
open Go.RowKit Go.Shelf Go.Maps

attribute [local go_sem] Oper.semAt_some

theorem apart_err (w : World) (sv : Option Addr) (a b : Int) (ha : 0 ≤ a ∧ a ≤ 18446744073709551615) (hb : 0 ≤ b ∧ b ≤ 18446744073709551615) (er : Int) (he : er ≠ 0) (hord : ∀ W' ad, Below w.heap.size w W' → Ids W' ad 2 [a, b] → Calls Tryz.prog 26 #[.pointer sv, .slice ad 2 2] W' fun e w' => e = .returned (.tuple #[.slice none 0 0, .int .i64 er]) ∧ Below W'.heap.size W' w') :
    Calls Tryz.prog 19 #[.pointer sv, .int .u64 a, .int .u64 b] w fun e w' => e = .returned (.tuple #[.int .i64 0, .int .i64 0, .int .i64 er]) ∧ Below w.heap.size w w' := by
  have hof := ofPair_err w sv a b ha hb er he hord
  have z1 : (er == 0) = false := beq_false_of_ne he
  clear hord ha hb
  go_enter Tryz.func19, Tryz.ntmps19
  go_wp2_with (go_at_call 41; refine hof.mono ?_; clear hof; rintro e w1 ⟨rfl, hB1⟩; have H1 : Hid (Below w.heap.size w (w1.alloc (.cells #[.slice none 0 0, .map none] 90))) := hB1.alloc hB1.size _; clear hB1)
  refine bodyPost_ret (v := .tuple #[.int .i64 0, .int .i64 0, .int .i64 er]) (by simp [results, Tryz.results19, go_sem]) rfl ?_
  exact ⟨rfl, H1.out⟩
theorem relation_err (w : World) (sv : Option Addr) (a b : Int) (ha : 0 ≤ a ∧ a ≤ 18446744073709551615) (hb : 0 ≤ b ∧ b ≤ 18446744073709551615) (er : Int) (he : er ≠ 0) (hord : ∀ W' ad, Below w.heap.size w W' → Ids W' ad 2 [a, b] → Calls Tryz.prog 26 #[.pointer sv, .slice ad 2 2] W' fun e w' => e = .returned (.tuple #[.slice none 0 0, .int .i64 er]) ∧ Below W'.heap.size W' w') :
    Calls Tryz.prog 20 #[.pointer sv, .int .u64 a, .int .u64 b] w fun e w' => e = .returned (.tuple #[.int .i64 0, .int .i64 er]) ∧ Below w.heap.size w w' := by
  have hof := ofPair_err w sv a b ha hb er he hord
  have z1 : (er == 0) = false := beq_false_of_ne he
  clear hord ha hb
  go_enter Tryz.func20, Tryz.ntmps20
  go_wp2_with (go_at_call 41; refine hof.mono ?_; clear hof; rintro e w1 ⟨rfl, hB1⟩; have H1 : Hid (Below w.heap.size w (w1.alloc (.cells #[.slice none 0 0, .map none] 90))) := hB1.alloc hB1.size _; clear hB1)
  go_ret2
  exact ⟨rfl, H1.out⟩

/-- a history of two commits, boxed -/
theorem pair_box {w w1 : World} {os : List Ob} {g : GS} {a b : Int} {oa : Option Addr} {oc mb km : Nat} (hH : Hist w w1 os 3 g (pairM a b) oa oc mb km) (hB1 : Below w.heap.size w w1) :
    MkAt (w1.alloc (.cells #[.slice oa g.ord.length oc, .map (some mb)] 90)) mb (mrkP os g a b) km ∧ BoxH (w1.alloc (.cells #[.slice oa g.ord.length oc, .map (some mb)] 90)) w1.heap.size (.slice oa g.ord.length oc) (.map (some mb)) ∧ Below w.heap.size w (w1.alloc (.cells #[.slice oa g.ord.length oc, .map (some mb)] 90)) ∧ Ids (w1.alloc (.cells #[.slice oa g.ord.length oc, .map (some mb)] 90)) oa g.ord.length g.ord := by
  have hA : Below w1.heap.size w1 (w1.alloc (.cells #[.slice oa g.ord.length oc, .map (some mb)] 90)) := (Below.refl _ _).alloc (Nat.le_refl _) _
  exact ⟨hH.marks.kept (hA.block _ hH.marks.lt), BoxH.new _ _ _, hB1.trans (hA.mono hB1.size), hH.ids.kept hA⟩
theorem mrkP_lt (os : List Ob) (g : GS) (a b : Int) : ∀ x, mrkP os g a b x < 8 := spr_lt _ _ _ _ (pairM_lt a b)

set_option maxRecDepth 100000 in
set_option maxHeartbeats 4000000 in
theorem apart_ok (w : World) (s d : Nat) (os : List Ob) (sz : Nat) (cut : Bool) (F : Nat → Prop) (hS : IsSt w s d os sz cut F) (hos : os.length ≤ 65536) (a b : Int) (ha : 0 ≤ a ∧ a ≤ 18446744073709551615) (hb : 0 ≤ b ∧ b ≤ 18446744073709551615) (g : GS) (hR : ordG os [a, b] GS.none = .ok g) :
    Calls Tryz.prog 19 #[.pointer (some ⟨s, 0, none⟩), .int .u64 a, .int .u64 b] w fun e w' => e = .returned (.tuple #[.int .i64 ((cntP (mrkP os g a b) 1 g.ord : Nat) : Int), .int .i64 ((cntP (mrkP os g a b) 2 g.ord : Nat) : Int), .int .i64 0]) ∧ Below w.heap.size w w' := by
  have hmx : Tryz.prog.follows .mixedOrders = true := by kernel_rfl
  have hof := ofPair_ok w s d os sz cut F hS hos a b ha hb g hR
  have hle := Nat.le_trans (ord_len hR) hos
  have hrg := ord_rng hR
  have hm8 := mrkP_lt os g a b
  clear hS ha hb hR
  go_enter Tryz.func19, Tryz.ntmps19
  go_wp2_with fail
  refine hof.mono ?_
  clear hof
  rintro e w1 ⟨⟨oa, oc, mb, km, rfl, hH⟩, hB1⟩
  obtain ⟨hmk, bH, hB, hI⟩ := pair_box hH hB1
  have HC : Hid (∀ W z, Below (w1.alloc (.cells #[.slice oa g.ord.length oc, .map (some mb)] 90)).heap.size (w1.alloc (.cells #[.slice oa g.ord.length oc, .map (some mb)] 90)) W → Calls Tryz.prog 42 #[.agg #[.slice oa g.ord.length oc, .map (some mb)], .int .u64 ((z : Nat) : Int)] W fun e w' => e = .returned (.int .i64 ((cntP (mrkP os g a b) z g.ord : Nat) : Int)) ∧ Below W.heap.size W w') := fun W z hW => count_any W _ hm8 g.ord oa _ oc mb km (hI.kept hW) hrg (hmk.kept (hW.block _ hmk.lt)) hle z
  have HX : Hid (BoxH (w1.alloc (.cells #[.slice oa g.ord.length oc, .map (some mb)] 90)) w1.heap.size (.slice oa g.ord.length oc) (.map (some mb)) ∧ Below w.heap.size w (w1.alloc (.cells #[.slice oa g.ord.length oc, .map (some mb)] 90))) := ⟨bH, hB⟩
  clear hmk bH hB hI hH hB1 hrg hm8 hle
  go_wp2_with fail
  generalize hwx : w1.alloc (.cells #[.slice oa g.ord.length oc, .map (some mb)] 90) = wx at *
  clear hwx
  have HC1 : Hid (∀ W, Below wx.heap.size wx W → Calls Tryz.prog 42 #[.agg #[.slice oa g.ord.length oc, .map (some mb)], .int .u64 1] W fun e w' => e = .returned (.int .i64 ((cntP (mrkP os g a b) 1 g.ord : Nat) : Int)) ∧ Below wx.heap.size wx w') := fun W hW => (HC.out W 1 hW).mono fun e W' ⟨h1, h2⟩ => ⟨h1, hW.trans (h2.mono hW.size)⟩
  have HC2 : Hid (∀ W, Below wx.heap.size wx W → Calls Tryz.prog 42 #[.agg #[.slice oa g.ord.length oc, .map (some mb)], .int .u64 2] W fun e w' => e = .returned (.int .i64 ((cntP (mrkP os g a b) 2 g.ord : Nat) : Int)) ∧ Below wx.heap.size wx w') := fun W hW => (HC.out W 2 hW).mono fun e W' ⟨h1, h2⟩ => ⟨h1, hW.trans (h2.mono hW.size)⟩
  have HT : Hid (∀ W, Below wx.heap.size wx W → W.cell? ⟨w1.heap.size, 0, none⟩ = some (.slice oa g.ord.length oc) ∧ W.cell? ⟨w1.heap.size, 1, none⟩ = some (.map (some mb))) := fun W hW => BoxH.cell (show BoxH W w1.heap.size _ _ from (hW.block _ HX.out.1.lt).trans HX.out.1)
  have HB : Hid (Below w.heap.size w wx) := HX.out.2
  clear HC HX
  generalize g.ord.length = no at *
  refine wp_region_G (S := SB 1000 (fun _ => True) (fun W => W.cell? ⟨w1.heap.size, 0, none⟩ = some (.slice oa no oc) ∧ W.cell? ⟨w1.heap.size, 1, none⟩ = some (.map (some mb)))) hmx ?_
  refine wpAnyG_takeP (i := 0) (v := ?_) rfl (by kernel_rfl) (by kernel_rfl) (by kernel_rfl) (fun _ _ _ h => h) rfl (Or.inl ⟨by rfl, ?_⟩) (SB.off (by kernel_rfl) (HT.out _ (below_drewN (Below.refl _ _) 1))) ?_
  rotate_left
  · intro Y hY; obtain ⟨f1, f2⟩ := hY; go_simp; try with_reducible rfl
  intro hSB0
  simp only [Act.put, List.getElem_toArray, List.getElem_cons_zero, List.setIfInBounds_toArray, List.set_cons_zero, List.set_cons_succ]
  refine wpAnyG_takeP (i := 2) (v := ?_) rfl (by kernel_rfl) (by kernel_rfl) (by kernel_rfl) (fun _ _ _ h => h) rfl (Or.inl ⟨by rfl, ?_⟩) (by assumption) ?_
  rotate_left
  · intro Y hY; obtain ⟨f1, f2⟩ := hY; go_simp; try with_reducible rfl
  intro hSB2
  simp only [Act.put, List.getElem_toArray, List.getElem_cons_zero, List.getElem_cons_succ, List.setIfInBounds_toArray, List.set_cons_zero, List.set_cons_succ]
  refine wpAnyG_one (i := 1) (by kernel_rfl) rfl (fun K hK => ?_)
  rw [if_pos (by rfl)]
  refine step_count (R := fun W => Below wx.heap.size wx W) _ 1 _ _ (by rfl) (by rfl) ((HC1.out _ (below_drewN (Below.refl _ _) 1)).mono fun e W' hp => hp) ?_
  intro w7 hBw7
  have H7 : Hid (Below wx.heap.size wx w7) := hBw7
  refine hK.out _ _ (SB.off (by kernel_rfl) (HT.out w7 hBw7)) (fun hSB1 => ?_)
  clear hK K hBw7
  simp only [Act.put, List.getElem_toArray, List.getElem_cons_zero, List.getElem_cons_succ, List.setIfInBounds_toArray, List.set_cons_zero, List.set_cons_succ]
  refine wpAnyG_one (i := 3) (by kernel_rfl) rfl (fun K hK => ?_)
  rw [if_pos (by rfl)]
  refine step_count (R := fun W => Below wx.heap.size wx W) _ 2 _ _ (by rfl) (by rfl) ((HC2.out _ H7.out).mono fun e W' hp => hp) ?_
  intro w8 hBw8
  have H8 : Hid (Below wx.heap.size wx w8) := hBw8
  refine hK.out _ _ (SB.off (by kernel_rfl) (HT.out w8 hBw8)) (fun hSB3 => ?_)
  clear hK K hBw8
  simp only [Act.put, List.getElem_toArray, List.getElem_cons_zero, List.getElem_cons_succ, List.setIfInBounds_toArray, List.set_cons_zero, List.set_cons_succ]
  refine wpAnyG_takeP (i := 4) (v := ?_) rfl (by kernel_rfl) (by kernel_rfl) (by kernel_rfl) (fun _ _ _ h => h) rfl (Or.inl ⟨by rfl, ?_⟩) (by assumption) ?_
  rotate_left
  · intro Y hY; go_simp; try with_reducible rfl
  intro hSB4
  simp only [Act.put, List.getElem_toArray, List.getElem_cons_zero, List.getElem_cons_succ, List.setIfInBounds_toArray, List.set_cons_zero, List.set_cons_succ]
  refine wpAnyG_takeP (i := 5) (v := ?_) rfl (by kernel_rfl) (by kernel_rfl) (by kernel_rfl) (fun _ _ _ h => h) rfl (Or.inl ⟨by rfl, ?_⟩) (by assumption) ?_
  rotate_left
  · intro Y hY; go_simp; try with_reducible rfl
  intro hSB5
  simp only [Act.put, List.getElem_toArray, List.getElem_cons_zero, List.getElem_cons_succ, List.setIfInBounds_toArray, List.set_cons_zero, List.set_cons_succ]
  refine wpAnyG_takeP (i := 6) (v := ?_) rfl (by kernel_rfl) (by kernel_rfl) (by kernel_rfl) (fun _ _ _ h => h) rfl (Or.inl ⟨by rfl, ?_⟩) (by assumption) ?_
  rotate_left
  · intro Y hY; go_simp; try with_reducible rfl
  intro hSB6
  simp only [Act.put, List.getElem_toArray, List.getElem_cons_zero, List.getElem_cons_succ, List.setIfInBounds_toArray, List.set_cons_zero, List.set_cons_succ]
  refine wpAnyG_done (by kernel_rfl) ?_ _
  clear hSB0 hSB1 hSB2 hSB3 hSB4 hSB5 hSB6
  go_wp2_with fail
  refine bodyPost_ret (v := .tuple #[.int .i64 ((cntP (mrkP os g a b) 1 g.ord : Nat) : Int), .int .i64 ((cntP (mrkP os g a b) 2 g.ord : Nat) : Int), .int .i64 0]) (by simp [results, Tryz.results19, go_sem]) rfl ?_
  exact ⟨rfl, HB.out.trans (H8.out.mono HB.out.size)⟩

/-- what Relation tells -/
def relP (f : Int → Nat) (l : List Int) (a b : Int) : Int := if a = b then 1 else if f b &&& 1 ≠ 0 then 2 else if f a &&& 2 ≠ 0 then 3 else if 0 < cntP f 3 l then 4 else 5
set_option maxRecDepth 100000 in
set_option maxHeartbeats 4000000 in
theorem relation_ok (w : World) (s d : Nat) (os : List Ob) (sz : Nat) (cut : Bool) (F : Nat → Prop) (hS : IsSt w s d os sz cut F) (hos : os.length ≤ 65536) (a b : Int) (ha : 0 ≤ a ∧ a ≤ 18446744073709551615) (hb : 0 ≤ b ∧ b ≤ 18446744073709551615) (g : GS) (hR : ordG os [a, b] GS.none = .ok g) :
    Calls Tryz.prog 20 #[.pointer (some ⟨s, 0, none⟩), .int .u64 a, .int .u64 b] w fun e w' => e = .returned (.tuple #[.int .i64 (relP (mrkP os g a b) g.ord a b), .int .i64 0]) ∧ Below w.heap.size w w' := by
  have hof := ofPair_ok w s d os sz cut F hS hos a b ha hb g hR
  have hle := Nat.le_trans (ord_len hR) hos
  have hrg := ord_rng hR
  have hm8 := mrkP_lt os g a b
  have HA : Hid ((0 ≤ a ∧ a ≤ 18446744073709551615) ∧ 0 ≤ b ∧ b ≤ 18446744073709551615) := ⟨ha, hb⟩
  clear hS ha hb hR
  obtain ⟨f, hf⟩ : ∃ f, mrkP os g a b = f := ⟨_, rfl⟩
  rw [hf] at hm8 ⊢
  go_enter Tryz.func20, Tryz.ntmps20
  go_wp2_with fail
  refine hof.mono ?_
  clear hof
  rintro e w1 ⟨⟨oa, oc, mb, km, rfl, hH⟩, hB1⟩
  obtain ⟨hmk, bH, hB, hI⟩ := pair_box hH hB1
  rw [hf] at hmk
  have hcn := count_any _ f hm8 g.ord oa _ oc mb km hI hrg hmk hle 3
  have hcn : Calls Tryz.prog 42 #[.agg #[.slice oa g.ord.length oc, .map (some mb)], .int .u64 3] (w1.alloc (.cells #[.slice oa g.ord.length oc, .map (some mb)] 90)) fun e w' => e = .returned (.int .i64 ((cntP f 3 g.ord : Nat) : Int)) ∧ Below (w1.alloc (.cells #[.slice oa g.ord.length oc, .map (some mb)] 90)).heap.size (w1.alloc (.cells #[.slice oa g.ord.length oc, .map (some mb)] 90)) w' := hcn
  obtain ⟨c0, c1⟩ := bH.cell
  have hla := hmk.look a HA.out.1.1 HA.out.1.2 _ rfl
  have hlb := hmk.look b HA.out.2.1 HA.out.2.2 _ rfl
  have hab : bits .and .u64 ((f b : Nat) : Int) 1 = ((f b &&& 1 : Nat) : Int) := bits_and (f b) 1 (by have := hm8 b; omega) (by decide)
  have haa : bits .and .u64 ((f a : Nat) : Int) 2 = ((f a &&& 2 : Nat) : Int) := bits_and (f a) 2 (by have := hm8 a; omega) (by decide)
  have HB : Hid (Below w.heap.size w (w1.alloc (.cells #[.slice oa g.ord.length oc, .map (some mb)] 90))) := hB
  have HRel : Hid (∀ r, relP f g.ord a b = r ↔ (if a = b then 1 else if f b &&& 1 ≠ 0 then 2 else if f a &&& 2 ≠ 0 then 3 else if 0 < cntP f 3 g.ord then 4 else 5) = r) := fun r => Iff.rfl
  clear hmk bH hB hI hH hB1 hrg hm8 hle hf
  generalize cntP f 3 g.ord = cn at *
  generalize g.ord.length = no at *
  by_cases h1 : a = b
  · have HE : Hid (relP f g.ord a b = 1) := (HRel.out 1).2 (by rw [if_pos h1])
    clear hcn HRel
    subst h1
    go_wp2
    go_ret2
    exact ⟨by rw [HE.out]; rfl, HB.out⟩
  · have b1 : (a == b) = false := beq_false_of_ne h1
    by_cases h2 : f b &&& 1 = 0
    · rw [h2] at hab
      by_cases h3 : f a &&& 2 = 0
      · rw [h3] at haa
        by_cases h4 : 0 < cn
        · have HE : Hid (relP f g.ord a b = 4) := (HRel.out 4).2 (by rw [if_neg h1, if_neg (by omega), if_neg (by omega), if_pos h4])
          have i4 : (0 : Int) < (cn : Int) := by omega
          clear HRel h1 h2 h3
          go_wp2_with (go_at_call 42; refine hcn.mono ?_; clear hcn; rintro e w3 ⟨rfl, hB3⟩; have H3 : Hid (Below w.heap.size w w3) := HB.out.trans (hB3.mono HB.out.size); clear hB3)
          go_ret2
          exact ⟨by rw [HE.out]; rfl, H3.out⟩
        · have HE : Hid (relP f g.ord a b = 5) := (HRel.out 5).2 (by rw [if_neg h1, if_neg (by omega), if_neg (by omega), if_neg h4])
          have i4 : ¬ (0 : Int) < (cn : Int) := by omega
          clear HRel h1 h2 h3
          go_wp2_with (go_at_call 42; refine hcn.mono ?_; clear hcn; rintro e w3 ⟨rfl, hB3⟩; have H3 : Hid (Below w.heap.size w w3) := HB.out.trans (hB3.mono HB.out.size); clear hB3)
          go_ret2
          exact ⟨by rw [HE.out]; rfl, H3.out⟩
      · have HE : Hid (relP f g.ord a b = 3) := (HRel.out 3).2 (by rw [if_neg h1, if_neg (by omega), if_pos h3])
        have b3 : (((f a &&& 2 : Nat) : Int) == 0) = false := beq_false_of_ne (by omega)
        clear HRel h1 h2 h3 hcn
        generalize f a &&& 2 = fa at *
        go_wp2
        go_ret2
        exact ⟨by rw [HE.out]; rfl, HB.out⟩
    · have HE : Hid (relP f g.ord a b = 2) := (HRel.out 2).2 (by rw [if_neg h1, if_pos h2])
      have b2 : (((f b &&& 1 : Nat) : Int) == 0) = false := beq_false_of_ne (by omega)
      clear HRel h1 h2 hcn
      generalize f b &&& 1 = fb at *
      go_wp2
      go_ret2
      exact ⟨by rw [HE.out]; rfl, HB.out⟩
end Go.Proofs.YtncagdfbgpdhfaaGreat
