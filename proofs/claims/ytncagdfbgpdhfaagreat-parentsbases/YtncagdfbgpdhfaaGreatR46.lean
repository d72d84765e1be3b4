import Derived.Test.YtncagdfbgpdhfaaGreatR43
import Derived.Test.YtncagdfbgpdhfaaGreatR36
/- Law 12's some: ids of a history, by numbers (mksome.py out of GHeads). -/
namespace Go.Proofs.YtncagdfbgpdhfaaGreat
open Go.RowKit Go.Maps

attribute [local go_sem] Oper.semAt_some

def someId (ids : List Int) (x : Int) : Int := if x < 0 ∨ ids.length = 0 then 54321 else (ids[x.toNat % ids.length]?).getD 0
def someG (ids : List Int) (l : List Int) : List Int := (l.take 10).map (someId ids)
theorem someG_take (ids l : List Int) (k : Nat) (x : Int) (h8 : k < 10) (h : l[k]? = some x) : (someG ids (l.take k)) ++ [someId ids x] = someG ids (l.take (k + 1)) := by
  have hk := (List.getElem?_eq_some_iff.1 h).1
  have hx : l[k] = x := (List.getElem?_eq_some_iff.1 h).2
  unfold someG
  rw [List.take_take, List.take_take, show min 10 k = k by omega, show min 10 (k + 1) = k + 1 by omega, List.take_succ_eq_append_getElem hk, hx]
  simp
theorem someG_len (ids l : List Int) : (someG ids l).length ≤ 10 := by unfold someG; rw [List.length_map, List.length_take]; omega
theorem someId_rng {ids : List Int} (hr : ∀ i ∈ ids, 0 ≤ i ∧ i ≤ 18446744073709551615) (x : Int) : 0 ≤ someId ids x ∧ someId ids x ≤ 18446744073709551615 := by
  unfold someId
  split
  · omega
  · rename_i h
    have hl : x.toNat % ids.length < ids.length := Nat.mod_lt _ (by omega)
    rw [List.getElem?_eq_getElem hl, Option.getD_some]
    exact hr _ (List.getElem_mem hl)
theorem someG_rng {ids : List Int} (hr : ∀ i ∈ ids, 0 ≤ i ∧ i ≤ 18446744073709551615) (l : List Int) : ∀ x ∈ someG ids l, 0 ≤ x ∧ x ≤ 18446744073709551615 := by
  intro x hx
  unfold someG at hx
  obtain ⟨y, _, rfl⟩ := List.mem_map.1 hx
  exact someId_rng hr y

set_option maxRecDepth 100000 in
set_option maxHeartbeats 4000000 in
theorem some12_any (w : World) (hb k ic : Nat) (ia : Option Addr) (ids : List Int) (c2 : w.cell? ⟨hb, 2, none⟩ = some (.slice ia k ic)) (hids : Ids w ia k ids) (hk : k ≤ 1000000) (a : Option Addr) (n c : Nat) (l : List Int) (hl : Ints w a n l) (hn : n ≤ 9223372036854775807) (hlr : ∀ x ∈ l, -9223372036854775808 ≤ x ∧ x ≤ 9223372036854775807) :
    Calls Tryz.prog 11 #[.pointer (some ⟨hb, 0, none⟩), .slice a n c] w fun e w' => ∃ ad cp, e = .returned (.slice ad (someG ids l).length cp) ∧ w'.ownsRow w.heap.size 31 1 (.slice ad (someG ids l).length cp) (someG ids l).length ((someG ids l).map (Value.int .u64)) ∧ Below w.heap.size w w' := by
  have hll := hl.1
  have hil := hids.1
  obtain ⟨i0, hi, hzz0, hzz1, hzz2⟩ := info_parts infoIdG
  have hmx : Tryz.prog.follows .mixedOrders = true := by kernel_rfl
  obtain ⟨R, hR⟩ : ∃ R, R = someG ids l := ⟨_, rfl⟩
  have HR : Hid (R = someG ids l) := hR
  rw [← hR]
  clear hR
  have HL : Hid (Ints w a n l ∧ Ids w ia k ids ∧ (∀ x ∈ l, -9223372036854775808 ≤ x ∧ x ≤ 9223372036854775807) ∧ l.length = n ∧ ids.length = k) := ⟨hl, hids, hlr, hll, hil⟩
  clear hl hids hlr hll hil
  go_enter Tryz.func11, Tryz.ntmps11
  go_wp2
  go_loopg [5, 10] n (fun g v i wr => ∃ (j m : Nat) (ad : Option Addr) (cp : Nat), j + g = n ∧ j ≤ 10 ∧ m ≤ 10 ∧ i = .int .i64 (j : Int) ∧ v = .slice ad m cp ∧ Hid (m = (someG ids (l.take j)).length ∧ wr.ownsRow w.heap.size 31 1 (.slice ad m cp) m ((someG ids (l.take j)).map (Value.int .u64)) ∧ Below w.heap.size w wr))
  case atStart => exact ⟨0, 0, none, 0, by omega, by omega, by omega, rfl, rfl, rfl, World.ownsRow_nil _ _ _ _, Below.refl _ _⟩
  case round =>
    obtain ⟨j, m, ad, cp, hj, hj8, hm8, rfl, rfl, H⟩ := hrel
    cases gk with
    | zero =>
      obtain rfl : j = n := by omega
      have i2 : ¬ (j : Int) < (j : Int) := by omega
      have HE : Hid (m = R.length ∧ wr.ownsRow w.heap.size 31 1 (.slice ad m cp) m (R.map (Value.int .u64)) ∧ Below w.heap.size w wr) := by
        have h1 := H.out
        rw [List.take_of_length_le (by rw [HL.out.2.2.2.1]; exact Nat.le_refl _), ← HR.out] at h1
        exact h1
      clear H
      go_wp2
      go_ret
      obtain ⟨h1, h2, h3⟩ := HE.out
      exact ⟨ad, cp, by rw [← h1]; rfl, by rw [← h1]; exact h2, h3⟩
    | succ gk =>
      have hjl : j < n := by omega
      obtain ⟨x, hx⟩ : ∃ x, l[j]? = some x := ⟨_, List.getElem?_eq_getElem (by rw [HL.out.2.2.2.1]; omega)⟩
      obtain ⟨b2, o2, hba, hc2⟩ := HL.out.1.2 (by omega)
      subst hba
      obtain ⟨hm, hrow, hB⟩ := H.out
      have q0 := (hB.cell (p := ⟨b2, o2 + j, none⟩) (World.block_lt_of_cell? w _ (hc2 j x hx))).trans (hc2 j x hx)
      have d2 := (hB.cell (p := ⟨hb, 2, none⟩) (World.block_lt_of_cell? w _ c2)).trans c2
      have hxr := HL.out.2.2.1 x (List.mem_of_getElem? hx)
      have i2 : (j : Int) < (n : Int) := by omega
      have i3 : ¬ n ≤ j := by omega
      by_cases h8 : j = 10
      · subst h8
        have HE : Hid (m = R.length ∧ wr.ownsRow w.heap.size 31 1 (.slice ad m cp) m (R.map (Value.int .u64)) ∧ Below w.heap.size w wr) := by
          have e : someG ids (l.take 10) = someG ids l := by unfold someG; rw [List.take_take, Nat.min_self]
          have h1 := H.out
          rw [e, ← HR.out] at h1
          exact h1
        clear H hx hc2 hm hrow hB
        go_wp2
        go_ret
        obtain ⟨h1, h2, h3⟩ := HE.out
        exact ⟨ad, cp, by rw [← h1]; rfl, by rw [← h1]; exact h2, h3⟩
      · have h8' : ((j : Int) == 10) = false := by simp; omega
        have h8'' : ¬ (j : Int) = 10 := by omega
        have hst := someG_take ids l j x (by omega) hx
        have HJ : Hid (j + 1 + gk = n ∧ j + 1 ≤ 10) := ⟨by omega, by omega⟩
        by_cases hbad : x < 0 ∨ k = 0
        · have e99 : someId ids x = 54321 := by unfold someId; rw [HL.out.2.2.2.2, if_pos hbad]
          rw [e99] at hst
          have hr1 := hrow.alloc (.cells #[.int .u64 54321] 31)
          have HSZ : Hid (w.heap.size ≤ (wr.alloc (.cells #[.int .u64 54321] 31)).heap.size) := by have := hB.size; show _ ≤ _; rw [World.size_alloc]; omega
          have HB : Hid (Below w.heap.size w (wr.alloc (.cells #[.int .u64 54321] 31))) := hB.alloc hB.size _
          have HST : Hid (someG ids (l.take j) ++ [54321] = someG ids (l.take (j + 1)) ∧ m = (someG ids (l.take j)).length) := ⟨hst, hm⟩
          have hm7 : m + 1 ≤ 10 := by have := someG_len ids (l.take (j + 1)); rw [← hst, List.length_append] at this; simp at this; omega
          clear H hx hc2 hm hrow hB hst e99
          rcases hbad with hneg | hz
          · go_wp2_with
              (at_builtin
               refine wpList_append_own_at _ rfl _ _ 28 rfl w.heap.size 31 i0 _ 1 8 Tryz.underlying28 hi hzz0 hzz1 hzz2 rfl (by decide) _ m _ rfl hr1 ⟨_, 0, none⟩ 1 1 [.int .u64 54321] rfl rfl (cell_one_new _ _ _) (by simp [Value.oneCell']) (by unfold maxLen; omega) (by omega) HSZ.out ?_
               intro v' w5 hown5 hgr5 _ _
               have H5 : Hid (w5.ownsRow w.heap.size 31 1 v' (m + 1) ((someG ids (l.take j)).map (Value.int .u64) ++ [.int .u64 54321]) ∧ Below w.heap.size w w5) := ⟨hown5, HB.out.trans (below_gr1 hr1 HSZ.out hgr5)⟩
               clear hgr5
               obtain ⟨ad5, cp5, hv5, _⟩ := row_shapeN hown5
               clear hown5
               subst hv5)
            go_roundg gk
            case measure => omega
            case rel => exact ⟨j + 1, m + 1, ad5, cp5, HJ.out.1, HJ.out.2, hm7, by simp, rfl, by rw [← HST.out.1, List.length_append, ← HST.out.2]; rfl, by rw [← HST.out.1, List.map_append]; exact H5.out.1, H5.out.2⟩
          · subst hz
            by_cases hneg : x < 0
            · go_wp2_with
                (at_builtin
                 refine wpList_append_own_at _ rfl _ _ 28 rfl w.heap.size 31 i0 _ 1 8 Tryz.underlying28 hi hzz0 hzz1 hzz2 rfl (by decide) _ m _ rfl hr1 ⟨_, 0, none⟩ 1 1 [.int .u64 54321] rfl rfl (cell_one_new _ _ _) (by simp [Value.oneCell']) (by unfold maxLen; omega) (by omega) HSZ.out ?_
                 intro v' w5 hown5 hgr5 _ _
                 have H5 : Hid (w5.ownsRow w.heap.size 31 1 v' (m + 1) ((someG ids (l.take j)).map (Value.int .u64) ++ [.int .u64 54321]) ∧ Below w.heap.size w w5) := ⟨hown5, HB.out.trans (below_gr1 hr1 HSZ.out hgr5)⟩
                 clear hgr5
                 obtain ⟨ad5, cp5, hv5, _⟩ := row_shapeN hown5
                 clear hown5
                 subst hv5)
              go_roundg gk
              case measure => omega
              case rel => exact ⟨j + 1, m + 1, ad5, cp5, HJ.out.1, HJ.out.2, hm7, by simp, rfl, by rw [← HST.out.1, List.length_append, ← HST.out.2]; rfl, by rw [← HST.out.1, List.map_append]; exact H5.out.1, H5.out.2⟩
            · go_wp2_with
                (at_builtin
                 refine wpList_append_own_at _ rfl _ _ 28 rfl w.heap.size 31 i0 _ 1 8 Tryz.underlying28 hi hzz0 hzz1 hzz2 rfl (by decide) _ m _ rfl hr1 ⟨_, 0, none⟩ 1 1 [.int .u64 54321] rfl rfl (cell_one_new _ _ _) (by simp [Value.oneCell']) (by unfold maxLen; omega) (by omega) HSZ.out ?_
                 intro v' w5 hown5 hgr5 _ _
                 have H5 : Hid (w5.ownsRow w.heap.size 31 1 v' (m + 1) ((someG ids (l.take j)).map (Value.int .u64) ++ [.int .u64 54321]) ∧ Below w.heap.size w w5) := ⟨hown5, HB.out.trans (below_gr1 hr1 HSZ.out hgr5)⟩
                 clear hgr5
                 obtain ⟨ad5, cp5, hv5, _⟩ := row_shapeN hown5
                 clear hown5
                 subst hv5)
              go_roundg gk
              case measure => omega
              case rel => exact ⟨j + 1, m + 1, ad5, cp5, HJ.out.1, HJ.out.2, hm7, by simp, rfl, by rw [← HST.out.1, List.length_append, ← HST.out.2]; rfl, by rw [← HST.out.1, List.map_append]; exact H5.out.1, H5.out.2⟩
        · have hx0 : ¬ x < 0 := fun h => hbad (.inl h)
          have hk0 : ¬ k = 0 := fun h => hbad (.inr h)
          obtain ⟨ix, hix⟩ : ∃ ix, ix = x.toNat % k := ⟨_, rfl⟩
          have hixl : ix < k := by rw [hix]; exact Nat.mod_lt _ (by omega)
          obtain ⟨idv, hidv⟩ : ∃ idv, ids[ix]? = some idv := ⟨_, List.getElem?_eq_getElem (by rw [HL.out.2.2.2.2]; exact hixl)⟩
          have eid : someId ids x = idv := by
            unfold someId
            rw [HL.out.2.2.2.2, if_neg hbad, ← hix, hidv]
            rfl
          rw [eid] at hst
          obtain ⟨ig, io, hia, hci⟩ := HL.out.2.1.2 (by omega)
          subst hia
          have qi := (hB.cell (p := ⟨ig, io + ix, none⟩) (World.block_lt_of_cell? w _ (hci ix idv hidv))).trans (hci ix idv hidv)
          have hIX : x.tmod (k : Int) = (ix : Int) := by
            have h1 : x = ((x.toNat : Nat) : Int) := by omega
            rw [h1, hix]
            rfl
          have hix1 : (ix : Int) < (k : Int) := by omega
          have hix2 : (0 : Int) ≤ (ix : Int) := by omega
          have hix3 : ¬ k ≤ ix := by omega
          have kp : ¬ (k : Int) = 0 := by omega
          have hrowA := ((row_low hrow (Nat.zero_le _)).alloc (.cells #[.int .u64 idv] 31)).drew
          have HST : Hid (someG ids (l.take j) ++ [idv] = someG ids (l.take (j + 1)) ∧ m = (someG ids (l.take j)).length) := ⟨hst, hm⟩
          have hm7 : m + 1 ≤ 10 := by have := someG_len ids (l.take (j + 1)); rw [← hst, List.length_append] at this; simp at this; omega
          have hBa : Below wr.heap.size wr (wr.alloc (.cells #[.int .u64 idv] 31)).drew := ((Below.refl _ wr).alloc (Nat.le_refl _) _).trans ⟨rfl, rfl, rfl, Nat.le_refl _, fun _ _ => rfl⟩
          have d2a := (hBa.cell (p := ⟨hb, 2, none⟩) (World.block_lt_of_cell? wr _ d2)).trans d2
          have qia := (hBa.cell (p := ⟨ig, io + ix, none⟩) (World.block_lt_of_cell? wr _ qi)).trans qi
          have HEnd : Hid (∀ v' w3, w3.ownsRow 0 31 1 v' (m + 1) ((someG ids (l.take j)).map (Value.int .u64) ++ [.int .u64 idv]) → (wr.alloc (.cells #[.int .u64 idv] 31)).drew.grownBy w3 (Value.slice ad m cp).ownBlock → (v'.ownBlock = (Value.slice ad m cp).ownBlock ∨ v'.ownBlock = some (wr.alloc (.cells #[.int .u64 idv] 31)).drew.heap.size) → (w3.cell? ⟨hb, 2, none⟩ = some (.slice (some ⟨ig, io, none⟩) k ic) ∧ w3.cell? ⟨ig, io + ix, none⟩ = some (.int .u64 idv)) ∧ w3.ownsRow w.heap.size 31 1 v' (m + 1) ((someG ids (l.take j)).map (Value.int .u64) ++ [.int .u64 idv]) ∧ Below w.heap.size w w3) := by
            intro v' w3 ho3 hg3 hat3
            have hB3 : Below w.heap.size w w3 := by
              have h1 : Below w.heap.size w (wr.alloc (.cells #[.int .u64 idv] 31)).drew := hB.trans (hBa.mono hB.size)
              exact ⟨hg3.os.trans h1.os, hg3.tape.trans h1.tape, hg3.output.trans h1.output, Nat.le_trans h1.size hg3.size, fun z hz => (hg3.block z (Nat.lt_of_lt_of_le hz h1.size) (fun e => by have := (hrow.lt z e.symm).1; omega)).trans (h1.block z hz)⟩
            have hc0 := World.block_lt_of_cell? w _ c2
            have hc9 := hci ix idv hidv
            refine ⟨⟨(hB3.cell (p := ⟨hb, 2, none⟩) hc0).trans c2, (hB3.cell (p := ⟨ig, io + ix, none⟩) (World.block_lt_of_cell? w _ hc9)).trans hc9⟩, row_high ho3 fun z hz => ?_, hB3⟩
            rcases own_or (w := wr) (o := .cells #[.int .u64 idv] 31) hat3 z hz with h | h
            · exact (hrow.lt z h).1
            · have := hB.size; omega
          clear H hx hc2 hm hrow hB hst eid hidv hix hixl hbad hci hBa
          go_upto_region 8 with fail
          refine wp_region_G (S := SB 99 (fun _ => True) (fun W => W.cell? ⟨hb, 2, none⟩ = some (.slice (some ⟨ig, io, none⟩) k ic) ∧ W.cell? ⟨ig, io + ix, none⟩ = some (.int .u64 idv))) hmx ?_
          have hSB : SB 99 (fun _ => True) (fun W => W.cell? ⟨hb, 2, none⟩ = some (.slice (some ⟨ig, io, none⟩) k ic) ∧ W.cell? ⟨ig, io + ix, none⟩ = some (.int .u64 idv)) (Array.replicate 17 false) wr.drew := SB.on trivial ⟨d2, qi⟩
          refine wpAnyG_takeP (i := 0) (v := ?_) rfl (by kernel_rfl) (by kernel_rfl) (by kernel_rfl) (fun _ _ _ h => h) rfl (Or.inl ⟨by rfl, ?_⟩) (by assumption) ?_
          rotate_left
          · intro Y hY; obtain ⟨f1, f2⟩ := hY; go_simp; try with_reducible rfl
          intro hSB0
          try simp only [Act.put, List.getElem_toArray, List.getElem_cons_zero, List.setIfInBounds_toArray, List.set_cons_zero, List.set_cons_succ]
          refine wpAnyG_takeP (i := 1) (v := ?_) rfl (by kernel_rfl) (by kernel_rfl) (by kernel_rfl) (fun _ _ _ h => h) rfl (Or.inl ⟨by rfl, ?_⟩) (by assumption) ?_
          rotate_left
          · intro Y hY; obtain ⟨f1, f2⟩ := hY; go_simp; try with_reducible rfl
          intro hSB1
          try simp only [Act.put, List.getElem_toArray, List.getElem_cons_zero, List.getElem_cons_succ, List.setIfInBounds_toArray, List.set_cons_zero, List.set_cons_succ]
          refine wpAnyG_takeP (i := 2) (v := ?_) rfl (by kernel_rfl) (by kernel_rfl) (by kernel_rfl) (fun _ _ _ h => h) rfl (Or.inl ⟨by rfl, ?_⟩) (by assumption) ?_
          rotate_left
          · intro Y hY; obtain ⟨f1, f2⟩ := hY; go_simp; try with_reducible rfl
          intro hSB2
          try simp only [Act.put, List.getElem_toArray, List.getElem_cons_zero, List.getElem_cons_succ, List.setIfInBounds_toArray, List.set_cons_zero, List.set_cons_succ]
          refine wpAnyG_takeP (i := 3) (v := ?_) rfl (by kernel_rfl) (by kernel_rfl) (by kernel_rfl) (fun _ _ _ h => h) rfl (Or.inl ⟨by rfl, ?_⟩) (by assumption) ?_
          rotate_left
          · intro Y hY; obtain ⟨f1, f2⟩ := hY; go_simp; try with_reducible rfl
          intro hSB3
          try simp only [Act.put, List.getElem_toArray, List.getElem_cons_zero, List.getElem_cons_succ, List.setIfInBounds_toArray, List.set_cons_zero, List.set_cons_succ]
          refine wpAnyG_takeP (i := 4) (v := ?_) rfl (by kernel_rfl) (by kernel_rfl) (by kernel_rfl) (fun _ _ _ h => h) rfl (Or.inl ⟨by rfl, ?_⟩) (by assumption) ?_
          rotate_left
          · intro Y hY; obtain ⟨f1, f2⟩ := hY; go_simp; try with_reducible rfl
          intro hSB4
          try simp only [Act.put, List.getElem_toArray, List.getElem_cons_zero, List.getElem_cons_succ, List.setIfInBounds_toArray, List.set_cons_zero, List.set_cons_succ]
          refine wpAnyG_takeP (i := 5) (v := ?_) rfl (by kernel_rfl) (by kernel_rfl) (by kernel_rfl) (fun _ _ _ h => h) rfl (Or.inl ⟨by rfl, ?_⟩) (by assumption) ?_
          rotate_left
          · intro Y hY; obtain ⟨f1, f2⟩ := hY; go_simp; try with_reducible rfl
          intro hSB5
          try simp only [Act.put, List.getElem_toArray, List.getElem_cons_zero, List.getElem_cons_succ, List.setIfInBounds_toArray, List.set_cons_zero, List.set_cons_succ]
          refine wpAnyG_takeP (i := 6) (v := ?_) rfl (by kernel_rfl) (by kernel_rfl) (by kernel_rfl) (fun _ _ _ h => h) rfl (Or.inl ⟨by rfl, ?_⟩) (by assumption) ?_
          rotate_left
          · intro Y hY; obtain ⟨f1, f2⟩ := hY; go_simp; try with_reducible rfl
          intro hSB6
          try simp only [Act.put, List.getElem_toArray, List.getElem_cons_zero, List.getElem_cons_succ, List.setIfInBounds_toArray, List.set_cons_zero, List.set_cons_succ]
          refine wpAnyG_takeP (i := 7) (v := ?_) rfl (by kernel_rfl) (by kernel_rfl) (by kernel_rfl) (fun _ _ _ h => h) rfl (Or.inl ⟨by rfl, ?_⟩) (by assumption) ?_
          rotate_left
          · intro Y hY; obtain ⟨f1, f2⟩ := hY; go_simp; try with_reducible rfl
          intro hSB7
          try simp only [Act.put, List.getElem_toArray, List.getElem_cons_zero, List.getElem_cons_succ, List.setIfInBounds_toArray, List.set_cons_zero, List.set_cons_succ]
          refine wpAnyG_takeP (i := 8) (v := ?_) rfl (by kernel_rfl) (by kernel_rfl) (by kernel_rfl) (fun _ _ _ h => h) rfl (Or.inl ⟨by rfl, ?_⟩) (by assumption) ?_
          rotate_left
          · intro Y hY; obtain ⟨f1, f2⟩ := hY; go_simp; try with_reducible rfl
          intro hSB8
          try simp only [Act.put, List.getElem_toArray, List.getElem_cons_zero, List.getElem_cons_succ, List.setIfInBounds_toArray, List.set_cons_zero, List.set_cons_succ]
          refine wpAnyG_takeP (i := 9) (v := ?_) rfl (by kernel_rfl) (by kernel_rfl) (by kernel_rfl) (fun _ _ _ h => h) rfl (Or.inl ⟨by rfl, ?_⟩) (by assumption) ?_
          rotate_left
          · intro Y hY; obtain ⟨f1, f2⟩ := hY; go_simp; try with_reducible rfl
          intro hSB9
          try simp only [Act.put, List.getElem_toArray, List.getElem_cons_zero, List.getElem_cons_succ, List.setIfInBounds_toArray, List.set_cons_zero, List.set_cons_succ]
          refine wpAnyG_takeP (i := 10) (v := ?_) rfl (by kernel_rfl) (by kernel_rfl) (by kernel_rfl) (fun _ _ _ h => h) rfl (Or.inl ⟨by rfl, ?_⟩) (by assumption) ?_
          rotate_left
          · intro Y hY; obtain ⟨f1, f2⟩ := hY; go_simp; try with_reducible rfl
          intro hSB10
          try simp only [Act.put, List.getElem_toArray, List.getElem_cons_zero, List.getElem_cons_succ, List.setIfInBounds_toArray, List.set_cons_zero, List.set_cons_succ]
          refine wpAnyG_takeP (i := 11) (v := ?_) rfl (by kernel_rfl) (by kernel_rfl) (by kernel_rfl) (fun _ _ _ h => h) rfl (Or.inl ⟨by rfl, ?_⟩) (by assumption) ?_
          rotate_left
          · intro Y hY; obtain ⟨f1, f2⟩ := hY; go_simp; try with_reducible rfl
          intro hSB11
          try simp only [Act.put, List.getElem_toArray, List.getElem_cons_zero, List.getElem_cons_succ, List.setIfInBounds_toArray, List.set_cons_zero, List.set_cons_succ]
          refine wpAnyG_takeP (i := 12) (v := ?_) rfl (by kernel_rfl) (by kernel_rfl) (by kernel_rfl) (fun _ _ _ h => h) rfl (Or.inl ⟨by rfl, ?_⟩) (by assumption) ?_
          rotate_left
          · intro Y hY; obtain ⟨f1, f2⟩ := hY; go_simp; try with_reducible rfl
          intro hSB12
          try simp only [Act.put, List.getElem_toArray, List.getElem_cons_zero, List.getElem_cons_succ, List.setIfInBounds_toArray, List.set_cons_zero, List.set_cons_succ]
          refine wpAnyG_takeP (i := 13) (v := ?_) rfl (by kernel_rfl) (by kernel_rfl) (by kernel_rfl) (fun _ _ _ h => h) rfl (Or.inl ⟨by rfl, ?_⟩) (by assumption) ?_
          rotate_left
          · intro Y hY; obtain ⟨f1, f2⟩ := hY; go_simp; try with_reducible rfl
          intro hSB13
          try simp only [Act.put, List.getElem_toArray, List.getElem_cons_zero, List.getElem_cons_succ, List.setIfInBounds_toArray, List.set_cons_zero, List.set_cons_succ]
          refine wpAnyG_one (i := 14) (by kernel_rfl) rfl (fun K hK => ?_)
          go_simp
          refine hK.out _ _ (SB.on trivial ⟨d2a, qia⟩) (fun hSB14 => ?_)
          clear hK K
          refine wpAnyG_one (i := 15) (by kernel_rfl) rfl (fun K hK => ?_)
          refine step_push1 _ (by rfl) _ _ 28 31 i0 _ 8 (by rfl) Tryz.underlying28 hi hzz0 hzz1 hzz2 rfl (.slice ad m cp) m _ (by rfl) hrowA wr.heap.size (.int .u64 idv) (by rfl) (cell_newD wr (.int .u64 idv) 31) rfl (by unfold maxLen; omega) (by omega) ?_
          intro v' w3 ho3 hg3 hat3
          obtain ⟨ad5, cp5, rfl, _, _⟩ := row_shapeN ho3
          obtain ⟨hS3, hr3, hB3⟩ := HEnd.out _ w3 ho3 hg3 hat3
          have H5 : Hid (w3.ownsRow w.heap.size 31 1 (.slice ad5 (m + 1) cp5) (m + 1) ((someG ids (l.take j)).map (Value.int .u64) ++ [.int .u64 idv]) ∧ Below w.heap.size w w3) := ⟨hr3, hB3⟩
          clear hr3 hB3 ho3 hg3 hat3
          refine hK.out _ _ (SB.on trivial hS3) (fun hSB15 => ?_)
          clear hK K
          try simp only [Act.put, List.getElem_toArray, List.getElem_cons_zero, List.getElem_cons_succ, List.setIfInBounds_toArray, List.set_cons_zero, List.set_cons_succ]
          refine wpAnyG_takeP (i := 16) (v := ?_) rfl (by kernel_rfl) (by kernel_rfl) (by kernel_rfl) (fun _ _ _ h => h) rfl (Or.inl ⟨by rfl, ?_⟩) (by assumption) ?_
          rotate_left
          · intro Y hY; obtain ⟨f1, f2⟩ := hY; go_simp; try with_reducible rfl
          intro hSB16
          try simp only [Act.put, List.getElem_toArray, List.getElem_cons_zero, List.getElem_cons_succ, List.setIfInBounds_toArray, List.set_cons_zero, List.set_cons_succ]
          refine wpAnyG_done (by kernel_rfl) ?_ _
          go_wp2
          all_goals (
            go_roundg gk
            case measure => omega
            case rel => exact ⟨j + 1, m + 1, ad5, cp5, HJ.out.1, HJ.out.2, hm7, by simp, rfl, by rw [← HST.out.1, List.length_append, ← HST.out.2]; rfl, by rw [← HST.out.1, List.map_append]; exact H5.out.1, H5.out.2⟩)
end Go.Proofs.YtncagdfbgpdhfaaGreat
