import Derived.Test.YthalpnpnbclipaaGreatL37
import Derived.Test.YthalpnpnbclipaaGreatL08
import Derived.Test.YthalpnpnbclipaaGreatL04
import Derived.Test.YthalpnpnbclipaaGreatL22
import Derived.Test.YthalpnpnbclipaaGreatL23
import Derived.Test.YthalpnpnbclipaaGreatL16
/- The document's store (espalierref07): Put of what is not there. -/
namespace Go.Proofs.YthalpnpnbclipaaGreat
open Go.RowKit Go.Shelf Go.Maps

attribute [local go_sem] Oper.semAt_some

theorem infoBs : (Tryz.prog.info? 36).map (fun i => (i.zero, i.size, i.bytes)) = some (some (.slice none 0 0), 1, 24) := by kernel_rfl
abbrev El.v (e : El) : Value := .slice e.x e.m e.c
/-- what stands while the rows are copied -/
structure CpI (w wr : World) (ids : List Int) (E : Nat → El) (k : Nat) (v u : Value) : Prop where
  bel : Below w.heap.size w wr
  r1 : wr.ownsRow w.heap.size 24 1 v k ((ids.take k).map (Value.int .u64))
  r2 : wr.ownsRow w.heap.size 36 1 u k ((List.range k).map fun i => (E i).v)
theorem row_types {w : World} {B n m : Nat} {v u : Value} {xs ys : List Value} (h1 : w.ownsRow B 24 1 v n xs) (h2 : w.ownsRow B 36 1 u m ys) (g : Nat) (hg : v.ownBlock = some g) : u.ownBlock ≠ some g := by
  intro e
  obtain ⟨_, _, c1, k1⟩ := row_block h1 g hg
  obtain ⟨_, _, c2, k2⟩ := row_block h2 g e
  rw [k1] at k2
  cases k2
/-- ids, one more -/
theorem CpI.one {w wr w7 : World} {ids : List Int} {E : Nat → El} {k : Nat} {v v' u : Value} {x : Int} (h : CpI w wr ids E k v u) (hx : ids[k]? = some x)
    (ho : w7.ownsRow w.heap.size 24 1 v' (k + 1) ((ids.take k).map (Value.int .u64) ++ [.int .u64 x])) (hg : (wr.alloc (.cells #[.int .u64 x] 24)).grownBy w7 v.ownBlock) :
    Below w.heap.size w w7 ∧ w7.ownsRow w.heap.size 24 1 v' (k + 1) ((ids.take (k + 1)).map (Value.int .u64)) ∧ w7.ownsRow w.heap.size 36 1 u k ((List.range k).map fun i => (E i).v) := by
  have hs := h.bel.size
  have r1a := h.r1.alloc (.cells #[.int .u64 x] 24)
  have r2a := h.r2.alloc (.cells #[.int .u64 x] 24)
  refine ⟨(h.bel.alloc h.bel.size _).trans (below_gr r1a (by simp; omega) hg), ?_, row_moved r2a (fun g e => hg.block g (row_block r2a g e).2.1 (fun e' => row_types r1a r2a g e'.symm e))⟩
  rw [List.take_add_one, hx, List.map_append]
  exact ho
/-- rows, one more -/
theorem CpI.two {w wr w8 : World} {ids : List Int} {E : Nat → El} {k : Nat} {v u u' : Value} (hb : Below w.heap.size w wr) (h1 : wr.ownsRow w.heap.size 24 1 v (k + 1) ((ids.take (k + 1)).map (Value.int .u64))) (h2 : wr.ownsRow w.heap.size 36 1 u k ((List.range k).map fun i => (E i).v))
    (ho : w8.ownsRow w.heap.size 36 1 u' (k + 1) ((List.range k).map (fun i => (E i).v) ++ [(E k).v])) (hg : (wr.alloc (.cells #[(E k).v] 36)).grownBy w8 u.ownBlock) : CpI w w8 ids E (k + 1) v u' := by
  have hs := hb.size
  have r1a := h1.alloc (.cells #[(E k).v] 36)
  have r2a := h2.alloc (.cells #[(E k).v] 36)
  refine ⟨(hb.alloc hb.size _).trans (below_gr r2a (by simp; omega) hg), row_moved r1a (fun g e => hg.block g (row_block r1a g e).2.1 (fun e' => row_types r1a r2a g e e'.symm)), ?_⟩
  rw [List.range_succ, List.map_append]
  exact ho
/-- what lies behind a Put of what is not there -/
def PutNew (X Xb : Nat → Prop) (w w' : World) (n : Nat) (ids : List Int) (rows : List (List UInt8)) (l : List UInt8) (I : Int) (e : Ending) : Prop :=
  ∃ ia ic ra rcp, e = .returned (.tuple #[.agg #[.slice ia (n + 1) ic, .slice ra (n + 1) rcp], .int .u64 I, .bool true]) ∧ RM (fun k => X k ∨ Xb k ∨ (w.heap.size ≤ k ∧ k < w'.heap.size)) w' ia ra (n + 1) (ids ++ [I]) (rows ++ [l]) ∧ Below w.heap.size w w'
theorem rm_new {X Xb : Nat → Prop} {w Wf : World} {ia ra va ua : Option Addr} {n vc uc : Nat} {ids : List Int} {rows : List (List UInt8)} {E : Nat → El} {a : Option Addr} {m c : Nat} {l : List UInt8} {I : Int} (hL : ids.length = n ∧ rows.length = n) (hX : ∀ k, X k ∨ Xb k → k < w.heap.size) (hs : w.heap.size ≤ Wf.heap.size) (hBe : ∀ k, X k ∨ Xb k → Wf.heap[k]? = w.heap[k]?)
    (hA : ∀ W : World, (∀ k, X k → W.heap[k]? = w.heap[k]?) → Ids W ia n ids ∧ ∀ k, k < n → ∃ b off, ra = some ⟨b, off, none⟩ ∧ W.cell? ⟨b, off + k, none⟩ = some (.slice (E k).x (E k).m (E k).c) ∧ Bytes W (E k).x (E k).m (rc rows k)) (hb : BytesX Xb w a m l)
    (h1 : Wf.ownsRow w.heap.size 24 1 (.slice va (n + 1) vc) (n + 1) (ids.map (Value.int .u64) ++ [.int .u64 I])) (h2 : Wf.ownsRow w.heap.size 36 1 (.slice ua (n + 1) uc) (n + 1) ((List.range n).map (fun i => (E i).v) ++ [.slice a m c])) :
    RM (fun k => X k ∨ Xb k ∨ (w.heap.size ≤ k ∧ k < Wf.heap.size)) Wf va ua (n + 1) (ids ++ [I]) (rows ++ [l]) := by
  refine ⟨by simp [hL.1], by simp [hL.2], fun k hk => ?_, fun i => if i < n then E i else ⟨a, m, c, l⟩, fun W hW => ?_⟩
  · rcases hk with hk | hk | hk
    · exact Nat.lt_of_lt_of_le (hX k (.inl hk)) hs
    · exact Nat.lt_of_lt_of_le (hX k (.inr hk)) hs
    · exact hk.2
  · have m1 : W.ownsRow w.heap.size 24 1 (.slice va (n + 1) vc) (n + 1) (ids.map (Value.int .u64) ++ [.int .u64 I]) := row_moved h1 (fun g hg => hW g (.inr (.inr ⟨(row_block h1 g hg).1, (row_block h1 g hg).2.1⟩)))
    have m2 : W.ownsRow w.heap.size 36 1 (.slice ua (n + 1) uc) (n + 1) ((List.range n).map (fun i => (E i).v) ++ [.slice a m c]) := row_moved h2 (fun g hg => hW g (.inr (.inr ⟨(row_block h2 g hg).1, (row_block h2 g hg).2.1⟩)))
    have sX : ∀ k, X k → W.heap[k]? = w.heap[k]? := fun k hk => (hW k (.inl hk)).trans (hBe k (.inl hk))
    have sB : ∀ k, Xb k → W.heap[k]? = w.heap[k]? := fun k hk => (hW k (.inr (.inl hk))).trans (hBe k (.inr hk))
    refine ⟨?_, fun i hi => ?_⟩
    · have e1 : ids.map (Value.int .u64) ++ [.int .u64 I] = (ids ++ [I]).map (Value.int .u64) := by simp
      have e2 : (ids ++ [I]).length = n + 1 := by simp [hL.1]
      rw [e1] at m1
      rw [← e2] at m1 ⊢
      obtain ⟨ad, c', e, hI⟩ := own_ids m1
      cases e
      exact hI
    · rcases m2.2 with ⟨_, e⟩ | ⟨g, cap, cur, e, _⟩
      · omega
      · cases e
        have hcell : ∀ (x : Value), ((List.range n).map (fun i => (E i).v) ++ [.slice a m c])[i]? = some x → W.cell? ⟨g, i, none⟩ = some x := fun x hx => by
          have := m2.cells (g := g) rfl i x hx
          rw [Addr.add_lit] at this
          simpa using this
        refine ⟨g, 0, rfl, ?_⟩
        rw [Nat.zero_add]
        by_cases hin : i < n
        · simp only [if_pos hin]
          rw [rc_snoc rows l i (by rw [hL.2]; exact hin)]
          obtain ⟨_, _, _, _, hy⟩ := (hA W sX).2 i hin
          refine ⟨hcell _ ?_, hy⟩
          rw [List.getElem?_append_left (by simpa using hin)]
          simp [hin]
        · obtain rfl : i = n := by omega
          simp only [if_neg hin]
          have hrl : rc (rows ++ [l]) i = l := by rw [← hL.2]; exact rc_last rows l
          rw [hrl]
          refine ⟨hcell _ ?_, hb W sB⟩
          rw [List.getElem?_append_right (by simp)]
          simp
set_option maxRecDepth 20000 in
set_option maxHeartbeats 4000000 in
theorem srefPut_new (X Xb : Nat → Prop) (ia ra : Option Addr) (n ic rcp : Nat) (ids : List Int) (rows : List (List UInt8)) (w : World) (h : RM X w ia ra n ids rows) (hn : n ≤ 1000) (a : Option Addr) (m c : Nat) (l : List UInt8) (hb : BytesX Xb w a m l) (hXb : ∀ k, Xb k → k < w.heap.size) (hm : m ≤ maxLen) (hk : fidx ids (idOf l) = none) :
    Calls Tryz.prog 13 #[.agg #[.slice ia n ic, .slice ra n rcp], .slice a m c] w fun e w' => PutNew X Xb w w' n ids rows l (idOf l) e := by
  have hb0 := hb w (fun _ _ => rfl)
  obtain ⟨w0, hw0⟩ : ∃ w0, w0 = (w.alloc (.cells #[.slice ia n ic, .slice ra n rcp] 35)).alloc (.cells #[.slice none 0 0, .slice none 0 0] 35) := ⟨_, rfl⟩
  have hB0 : Below w.heap.size w w0 := by rw [hw0]; exact ((Below.refl _ w).alloc (Nat.le_refl _) _).alloc (by simp) _
  have k0 : w0.heap[w.heap.size]? = some (.cells #[.slice ia n ic, .slice ra n rcp] 35) := by
    rw [hw0, Below.heap_alloc _ _ _ (by simp)]; exact World.alloc_heap_new w _
  have k1 : w0.heap[w.heap.size + 1]? = some (.cells #[.slice none 0 0, .slice none 0 0] 35) := by
    have := World.alloc_heap_new (w.alloc (.cells #[.slice ia n ic, .slice ra n rcp] 35)) (.cells #[.slice none 0 0, .slice none 0 0] 35)
    rw [World.size_alloc] at this
    rw [hw0]; exact this
  have hs0 : w0.heap.size = w.heap.size + 2 := by rw [hw0]; simp
  obtain ⟨E, hE⟩ := h.all
  have HE : Hid (∀ W, Below w.heap.size w W → Ids W ia n ids ∧ ∀ k, k < n → ∃ b off, ra = some ⟨b, off, none⟩ ∧ W.cell? ⟨b, off + k, none⟩ = some (.slice (E k).x (E k).m (E k).c) ∧ Bytes W (E k).x (E k).m (rc rows k)) := fun W hW => hE W (fun k hx => hW.block k (h.lt k hx))
  have HA : Hid (∀ W : World, (∀ k, X k → W.heap[k]? = w.heap[k]?) → Ids W ia n ids ∧ ∀ k, k < n → ∃ b off, ra = some ⟨b, off, none⟩ ∧ W.cell? ⟨b, off + k, none⟩ = some (.slice (E k).x (E k).m (E k).c) ∧ Bytes W (E k).x (E k).m (rc rows k)) := hE
  have hfi : fidxI ids (idOf l) = -1 := by unfold fidxI; rw [hk]
  have hx0 := srefId_any a m c l w0 (bytes_below hb0 hB0) hm
  have HFD : Hid (∀ W, Below w.heap.size w W → Calls Tryz.prog 15 #[.agg #[.slice ia n ic, .slice ra n rcp], .int .u64 (idOf l)] W fun e w' => e = .returned (.int .i64 (-1)) ∧ Below W.heap.size W w') := fun W hW => by
    have := srefFind_any ia n ic ra n rcp ids W (HE.out W hW).1 (by omega) (idOf l)
    rw [hfi] at this
    exact this
  have HL : Hid (ids.length = n ∧ rows.length = n) := ⟨h.li, h.lr⟩
  have HXL : Hid (∀ k, X k ∨ Xb k → k < w.heap.size) := fun k hx => hx.elim (h.lt k) (hXb k)
  have HBX : Hid (BytesX Xb w a m l) := hb
  have HIL : Hid (∃ J, J = idOf l) := ⟨_, rfl⟩
  generalize hII : idOf l = I at *
  have HII : Hid (idOf l = I) := hII
  obtain ⟨t0, t1⟩ := two_cells k0
  have HK : Hid (∀ W, Below w0.heap.size w0 W → W.cell? ⟨w.heap.size, 0, none⟩ = some (.slice ia n ic) ∧ W.cell? ⟨w.heap.size, 1, none⟩ = some (.slice ra n rcp) ∧ W.heap[w.heap.size + 1]? = some (.cells #[.slice none 0 0, .slice none 0 0] 35)) := fun W hW => by
    have h1 := two_cells ((hW.block _ (by omega)).trans k0)
    exact ⟨h1.1, h1.2, (hW.block _ (by omega)).trans k1⟩
  obtain ⟨i0, hi0, hz0, hz1, hz2⟩ := info_parts infoId
  obtain ⟨i1, hi1, hy0, hy1, hy2⟩ := info_parts infoBs
  clear hfi hk h hE hb hII hb0 HIL k0 k1
  go_enter Tryz.func13, Tryz.ntmps13
  go_wp2_with fail
  rw [← hw0]
  refine hx0.mono ?_
  clear hx0
  rintro e w1 ⟨rfl, hw1⟩
  subst hw1
  clear hw0
  go_wp2_with fail
  refine (HFD.out _ hB0).mono ?_
  clear HFD
  rintro e w2 ⟨rfl, hB2⟩
  obtain ⟨w3, hm3, ho3, hg3⟩ := run_make_own (P := Tryz.prog) w2 w1.heap.size 32 24 i0 (.int .u64 0) 1 Tryz.underlying32 hi0 hz0 hz1 .i64 .i64 (n + 1) (by rw [hz2]; omega) (by unfold maxLen; omega) hB2.size
  have hB3 : Below w1.heap.size w1 w3 := hB2.trans ((⟨hg3.os, hg3.tape, hg3.output, hg3.size, fun k hk => hg3.block k hk (by simp)⟩ : Below w2.heap.size w2 w3).mono hB2.size)
  obtain ⟨w4, hm4, ho4, hg4⟩ := run_make_own (P := Tryz.prog) w3 w1.heap.size 33 36 i1 (.slice none 0 0) 1 Tryz.underlying33 hi1 hy0 hy1 .i64 .i64 (n + 1) (by rw [hy2]; omega) (by unfold maxLen; omega) hB3.size
  have hB34 : Below w3.heap.size w3 w4 := ⟨hg4.os, hg4.tape, hg4.output, hg4.size, fun k hk => hg4.block k hk (by simp)⟩
  have hB4 : Below w1.heap.size w1 w4 := hB3.trans (hB34.mono hB3.size)
  have HC4 : Hid (CpI w1 w4 ids E 0 (.slice (some ⟨w2.heap.size, 0, none⟩) 0 (n + 1)) (.slice (some ⟨w3.heap.size, 0, none⟩) 0 (n + 1))) := ⟨hB4, row_keep ho3 hB34, ho4⟩
  obtain ⟨c20, c21, _⟩ := HK.out w2 hB2
  obtain ⟨c30, c31, _⟩ := HK.out w3 hB3
  rw [show (((n + 1 : Nat)) : Int) = (n : Int) + 1 by omega] at hm3 hm4
  clear hB3 hB34 hB4 ho3 ho4 hg3 hg4 t0 t1 hB2
  go_wp2_with fail
  clear hm3 hm4 c20 c21 c30 c31
  go_loopw [9, 10, 11] (fun v u i wr => ∃ (k : Nat) (va : Option Addr) (vc : Nat) (ua : Option Addr) (uc : Nat), k ≤ n ∧ v = .slice va k vc ∧ u = .slice ua k uc ∧ i = .int .i64 k ∧ Hid (CpI w1 wr ids E k (.slice va k vc) (.slice ua k uc))) (fun _ _ i _ => n - (intOf i).toNat)
  case atStart => exact ⟨0, _, _, _, _, Nat.zero_le _, rfl, rfl, rfl, HC4⟩
  case round =>
    clear HC4
    obtain ⟨k, va, vc, ua, uc, hk, rfl, rfl, rfl, H⟩ := hrel
    have hBw : Below w.heap.size w wr := hB0.trans (H.out.bel.mono hB0.size)
    obtain ⟨c0, c1, cR⟩ := HK.out wr H.out.bel
    by_cases hlt : k < n
    · obtain ⟨hI, hrw⟩ := HE.out wr hBw
      obtain ⟨x, hx⟩ : ∃ x, ids[k]? = some x := ⟨_, List.getElem?_eq_getElem (by have := HL.out.1; omega)⟩
      obtain ⟨b1, o1, rfl, hc1⟩ := hI.2 (by omega)
      have q1 := hc1 k x hx
      obtain ⟨b2, o2, rfl, hc2, _⟩ := hrw k hlt
      have j1 : (k : Int) < (n : Int) := by omega
      have j2 : ¬ n ≤ k := by omega
      have hr1 := H.out.r1.alloc (.cells #[.int .u64 x] 24)
      have hsz := H.out.bel.size
      have HX : Hid (ids[k]? = some x) := hx
      obtain ⟨Ev, hEv⟩ : ∃ e, e = E k := ⟨_, rfl⟩
      have HEv : Hid (Ev = E k) := hEv
      obtain ⟨ex, em, ec, el⟩ := Ev
      rw [← hEv] at hc2
      simp only at hc2
      have HSt : Hid (∀ (w7 : World) (v' : Value), w7.ownsRow w1.heap.size 24 1 v' (k + 1) ((ids.take k).map (Value.int .u64) ++ [.int .u64 x]) → (wr.alloc (.cells #[.int .u64 x] 24)).grownBy w7 (Value.slice va k vc).ownBlock → (Below w1.heap.size w1 w7 ∧ w7.ownsRow w1.heap.size 24 1 v' (k + 1) ((ids.take (k + 1)).map (Value.int .u64)) ∧ w7.ownsRow w1.heap.size 36 1 (.slice ua k uc) k ((List.range k).map fun i => (E i).v)) ∧ w7.cell? ⟨w.heap.size, 1, none⟩ = some (.slice (some ⟨b2, o2, none⟩) n rcp) ∧ w7.cell? ⟨b2, o2 + k, none⟩ = some (.slice ex em ec)) := fun w7 v' h1 h2 => by
        have hs := H.out.one HX.out h1 h2
        refine ⟨hs, (HK.out w7 hs.1).2.1, ?_⟩
        have hB7 : Below w.heap.size w w7 := hB0.trans (hs.1.mono hB0.size)
        obtain ⟨b3, o3, e3, h3, _⟩ := (HE.out w7 hB7).2 k hlt
        cases e3
        rw [← HEv.out] at h3
        exact h3
      clear hc1 hI hrw hx H hEv
      go_wp2_with first
        | (at_builtin; refine wpList_append_own_at _ rfl _ _ 32 rfl w1.heap.size 24 i0 (.int .u64 0) 1 8 Tryz.underlying32 hi0 hz0 hz1 hz2 rfl (by decide) _ k _ rfl hr1 ⟨_, 0, none⟩ 1 1 [.int .u64 x] rfl rfl (cell_one_new _ _ _) (by simp [Value.oneCell']) (by unfold maxLen; omega) (by omega) (by simp; omega) ?_; intro v7 w7 hown7 hgr7 _ _; obtain ⟨va7, vc7, hv7, _⟩ := row_shape hown7; subst hv7; obtain ⟨⟨g1, g2, g3⟩, g4, g5⟩ := HSt.out w7 _ hown7 hgr7; have HG7 : Hid (Below w1.heap.size w1 w7 ∧ w7.ownsRow w1.heap.size 24 1 (.slice va7 (k + 1) vc7) (k + 1) ((ids.take (k + 1)).map (Value.int .u64)) ∧ w7.ownsRow w1.heap.size 36 1 (.slice ua k uc) k ((List.range k).map fun i => (E i).v)) := ⟨g1, g2, g3⟩; have hr2 := g3.alloc (.cells #[.slice ex em ec] 36); have hsz7 := g1.size; clear hown7 hgr7 g1 g2 g3 hr1 HSt)
        | (at_builtin; refine wpList_append_own_at _ rfl _ _ 33 rfl w1.heap.size 36 i1 (.slice none 0 0) 1 24 Tryz.underlying33 hi1 hy0 hy1 hy2 rfl (by decide) _ k _ rfl hr2 ⟨_, 0, none⟩ 1 1 [.slice ex em ec] rfl rfl (cell_one_new _ _ _) (by simp [Value.oneCell']) (by unfold maxLen; omega) (by omega) (by simp; omega) ?_; intro u8 w8 hown8 hgr8 _ _; obtain ⟨ua8, uc8, hu8, _⟩ := row_shape hown8; subst hu8; have H8 : Hid (CpI w1 w8 ids E (k + 1) (.slice va7 (k + 1) vc7) (.slice ua8 (k + 1) uc8)) := CpI.two HG7.out.1 HG7.out.2.1 HG7.out.2.2 (by rw [← HEv.out]; exact hown8) (by rw [← HEv.out]; exact hgr8); clear hown8 hgr8 hr2)
      go_roundw
      case rel => exact ⟨k + 1, va7, vc7, ua8, uc8, by omega, rfl, rfl, by go_num, H8⟩
      case measure => simp [intOf]; omega
    · obtain rfl : k = n := by omega
      have j1 : ¬ (k : Int) < (k : Int) := by omega
      have hr1 := H.out.r1.alloc (.cells #[.int .u64 I] 24)
      have hsz := H.out.bel.size
      rw [List.take_of_length_le (by have := HL.out.1; omega)] at hr1
      have HR : Hid (CpI w1 wr ids E k (.slice va k vc) (.slice ua k uc)) := H
      have HSt : Hid (∀ (w7 : World) (v' : Value), w7.ownsRow w1.heap.size 24 1 v' (k + 1) (ids.map (Value.int .u64) ++ [.int .u64 I]) → (wr.alloc (.cells #[.int .u64 I] 24)).grownBy w7 (Value.slice va k vc).ownBlock → Below w1.heap.size w1 w7 ∧ w7.ownsRow w1.heap.size 36 1 (.slice ua k uc) k ((List.range k).map fun i => (E i).v)) := fun w7 v' h1 h2 => by
        have r1a := H.out.r1.alloc (.cells #[.int .u64 I] 24)
        have r2a := H.out.r2.alloc (.cells #[.int .u64 I] 24)
        exact ⟨(H.out.bel.alloc H.out.bel.size _).trans (below_gr r1a (by simp; omega) h2), row_moved r2a (fun g e => h2.block g (row_block r2a g e).2.1 (fun e' => row_types r1a r2a g e'.symm e))⟩
      clear H HR
      go_wp2_with first
        | (at_builtin; refine wpList_append_own_at _ rfl _ _ 32 rfl w1.heap.size 24 i0 (.int .u64 0) 1 8 Tryz.underlying32 hi0 hz0 hz1 hz2 rfl (by decide) _ k _ rfl hr1 ⟨_, 0, none⟩ 1 1 [.int .u64 I] rfl rfl (cell_one_new _ _ _) (by simp [Value.oneCell']) (by unfold maxLen; omega) (by omega) (by simp; omega) ?_; intro v7 w7 hown7 hgr7 _ _; obtain ⟨va7, vc7, hv7, _⟩ := row_shape hown7; subst hv7; obtain ⟨g1, g3⟩ := HSt.out w7 _ hown7 hgr7; have HG7 : Hid (Below w1.heap.size w1 w7 ∧ w7.ownsRow w1.heap.size 24 1 (.slice va7 (k + 1) vc7) (k + 1) (ids.map (Value.int .u64) ++ [.int .u64 I])) := ⟨g1, hown7⟩; have hr2 := g3.alloc (.cells #[.slice a m c] 36); have hsz7 := g1.size; clear hown7 hgr7 g1 g3 hr1 HSt)
        | (at_builtin; refine wpList_append_own_at _ rfl _ _ 33 rfl w1.heap.size 36 i1 (.slice none 0 0) 1 24 Tryz.underlying33 hi1 hy0 hy1 hy2 rfl (by decide) _ k _ rfl hr2 ⟨_, 0, none⟩ 1 1 [.slice a m c] rfl rfl (cell_one_new _ _ _) (by simp [Value.oneCell']) (by unfold maxLen; omega) (by omega) (by simp; omega) ?_; intro u8 w8 hown8 hgr8 _ _; obtain ⟨ua8, uc8, hu8, _⟩ := row_shape hown8; subst hu8; have r1b := HG7.out.2.alloc (.cells #[.slice a m c] 36); have H8 : Hid (Below w1.heap.size w1 w8 ∧ w8.ownsRow w1.heap.size 24 1 (.slice va7 (k + 1) vc7) (k + 1) (ids.map (Value.int .u64) ++ [.int .u64 I]) ∧ w8.ownsRow w1.heap.size 36 1 (.slice ua8 (k + 1) uc8) (k + 1) ((List.range k).map (fun i => (E i).v) ++ [.slice a m c])) := ⟨(HG7.out.1.alloc HG7.out.1.size _).trans (below_gr hr2 (by simp; omega) hgr8), row_moved r1b (fun g e => hgr8.block g (row_block r1b g e).2.1 (fun e' => row_types r1b hr2 g e e'.symm)), hown8⟩; have e1 := (HK.out w8 H8.out.1).2.2; obtain ⟨y0, y1⟩ := two_cells e1; have f0 : w8.frozen? ⟨w.heap.size + 1, 0, none⟩ = false := (by simp [World.frozen?, e1]); have f1 : w8.frozen? ⟨w.heap.size + 1, 1, none⟩ = false := (by simp [World.frozen?, e1]); clear hown8 hgr8 hr2 r1b e1)
      have z1 : ((w8.setCell ⟨w.heap.size + 1, 0, none⟩ (.slice va7 (k + 1) vc7)).setCell ⟨w.heap.size + 1, 1, none⟩ (.slice ua8 (k + 1) uc8)).cell? ⟨w.heap.size + 1, 1, none⟩ = some (.slice ua8 (k + 1) uc8) := World.cell?_setCell_same _ _ _ (by rw [World.cell?_setCell_other _ _ _ _ (by simp)]; exact y1)
      have z0 : ((w8.setCell ⟨w.heap.size + 1, 0, none⟩ (.slice va7 (k + 1) vc7)).setCell ⟨w.heap.size + 1, 1, none⟩ (.slice ua8 (k + 1) uc8)).cell? ⟨w.heap.size + 1, 0, none⟩ = some (.slice va7 (k + 1) vc7) := by
        rw [World.cell?_setCell_other _ _ _ _ (by simp)]; exact World.cell?_setCell_same _ _ _ y0
      obtain ⟨b8, r18, r28⟩ := H8.out
      have hBf : Below w.heap.size w ((w8.setCell ⟨w.heap.size + 1, 0, none⟩ (.slice va7 (k + 1) vc7)).setCell ⟨w.heap.size + 1, 1, none⟩ (.slice ua8 (k + 1) uc8)) := ((hB0.trans (b8.mono hB0.size)).setCell (p := ⟨w.heap.size + 1, 0, none⟩) (by simp) _).setCell (p := ⟨w.heap.size + 1, 1, none⟩) (by simp) _
      have hsame : ∀ g, w1.heap.size ≤ g → ((w8.setCell ⟨w.heap.size + 1, 0, none⟩ (.slice va7 (k + 1) vc7)).setCell ⟨w.heap.size + 1, 1, none⟩ (.slice ua8 (k + 1) uc8)).heap[g]? = w8.heap[g]? := fun g hg => by
        rw [Below.heap_setCell _ _ _ _ (by show g ≠ w.heap.size + 1; omega), Below.heap_setCell _ _ _ _ (by show g ≠ w.heap.size + 1; omega)]
      have p1 := row_lower (row_moved r18 (fun g hg => hsame g (row_block r18 g hg).1)) (show w.heap.size ≤ w1.heap.size by omega)
      have p2 := row_lower (row_moved r28 (fun g hg => hsame g (row_block r28 g hg).1)) (show w.heap.size ≤ w1.heap.size by omega)
      refine bodyPost_ret (v := .tuple #[.agg #[.slice va7 (k + 1) vc7, .slice ua8 (k + 1) uc8], .int .u64 I, .bool true]) (by simp [results, Tryz.results13, go_sem, z0, z1]) rfl ⟨va7, vc7, ua8, uc8, rfl, ?_, hBf⟩
      exact rm_new HL.out HXL.out hBf.size (fun q hq => hBf.block q (HXL.out q hq)) HA.out HBX.out p1 p2
end Go.Proofs.YthalpnpnbclipaaGreat

/- The walk of the document's own form of a record. -/
namespace Go.Proofs.YthalpnpnbclipaaGreat
open Go.RowKit

theorem ownsRow_toBytes' {w : World} {B n c : Nat} {ad : Option Addr} {l : List UInt8} (h : w.ownsRow B 5 1 (.slice ad n c) n (cellsOf l)) : Bytes w ad n l := (ownsRow_toBytes h).1

theorem refHash_nat (a : Option Addr) (n c : Nat) (l : List UInt8) (w : World) (hb : Bytes w a n l) (hm : n ≤ maxLen) :
    Calls Tryz.prog 52 #[.slice a n c] w fun e w' => e = .returned (.int .u64 (hashN l)) ∧ w' = w := by
  rw [hashN_eq, hb.1]
  exact refHash_any a n c l w hb hm

set_option maxHeartbeats 1000000 in
theorem refRecord_any (a : Option Addr) (n c : Nat) (l : List UInt8) (w : World) (hb : Bytes w a n l) (hn : n ≤ 140737488351232) :
    Calls Tryz.prog 19 #[.slice a n c] w fun e w' => ∃ b, e = .returned (.slice (some ⟨b, 0, none⟩) (recB l).length (recB l).length) ∧ Bytes w' (some ⟨b, 0, none⟩) (recB l).length (recB l) ∧ Below w.heap.size w w' ∧ w.heap.size ≤ b := by
  have hrs := run_string w a n c l hb
  have hl := hb.1
  have hx1 := refText_any ⟨l.toArray⟩ w (by show l.length ≤ _; omega)
  go_enter Tryz.func19, Tryz.ntmps19
  go_wp2_with fail
  refine hx1.mono ?_
  clear hx1
  rintro e w1 ⟨v, rfl, hown1, hB1⟩
  obtain ⟨a1, c1, rfl, _, _⟩ := ownsRow_shape' hown1
  have hb1' := (ownsRow_toBytes' hown1)
  have hsz : (ByteArray.mk l.toArray).size = n := hl
  rw [hsz] at hown1 hb1' ⊢
  obtain ⟨N1, hN1⟩ : ∃ N1, N1 = (short n).length + n := ⟨_, rfl⟩
  have HN1 : Hid (N1 = (short n).length + n) := hN1
  rw [← hN1] at hb1' ⊢
  have hb2 : Bytes w1 a n l := (Turn.of_below (fun _ => False) hB1).bytes hb (fun _ _ _ => id)
  have hs10 := short_len n
  have hN1b : N1 ≤ 140737488351300 := by omega
  clear hb hrs hown1 hN1
  go_wp2_with fail
  refine (refHash_nat a n c l w1 hb2 (by unfold maxLen; omega)).mono ?_
  rintro e w2 ⟨rfl, rfl⟩
  go_wp2_with fail
  refine (refWord_any (hashN l) w2 (hashN_lt l)).mono ?_
  rintro e w3 ⟨rfl, hbw, hB3⟩
  have hb3 : Bytes w3 a1 N1 (short n ++ l) := (Turn.of_below (fun _ => False) hB3).bytes hb1' (fun _ _ _ => id)
  have hB13 : Hid (Below w.heap.size w w3) := hB1.trans (hB3.mono hB1.size)
  have hx4 := both_any a1 (some ⟨w2.heap.size, 0, none⟩) N1 8 c1 8 _ _ w3 hb3 hbw (by omega)
  clear hb2 hb1' hb3 hbw hB1 hB3
  go_wp2_with fail
  refine hx4.mono ?_
  clear hx4
  rintro e w4 ⟨rfl, hown4, hg4⟩
  go_wp2
  go_ret
  have hE : N1 + 8 = (recB l).length := by rw [recB_len, hl, HN1.out]
  have hE2 : short n ++ l ++ wide (hashN l) = recB l := by unfold recB; rw [hl, List.append_assoc]
  rw [hE, hE2] at hown4
  refine ⟨w3.heap.size, by rw [← hE]; rfl, (ownsRow_bytes hown4).1, hB13.out.grown hg4 hB13.out.size (by simp), hB13.out.size⟩

end Go.Proofs.YthalpnpnbclipaaGreat

/- The document's cursor: what its calls answer. -/
namespace Go.Proofs.YthalpnpnbclipaaGreat
open Go.RowKit

attribute [local go_sem] Oper.semAt_some

/-- a cursor: the bytes that are left, and whether it is wrong -/
structure Cu (W : World) (q bk off cp : Nat) (s : List UInt8) (wr : Bool) : Prop where
  box : W.heap[q]? = some (.cells #[.slice (some ⟨bk, off, none⟩) s.length cp, .bool wr] 145 (0, 0))
  by_ : Bytes W (some ⟨bk, off, none⟩) s.length s
  le : s.length ≤ cp
  ne : bk ≠ q
  lt : bk < W.heap.size
theorem Cu.cell {W : World} {q bk off cp : Nat} {s : List UInt8} {wr : Bool} (h : Cu W q bk off cp s wr) : W.cell? ⟨q, 0, none⟩ = some (.slice (some ⟨bk, off, none⟩) s.length cp) ∧ W.cell? ⟨q, 1, none⟩ = some (.bool wr) ∧ W.frozen? ⟨q, 0, none⟩ = false ∧ W.frozen? ⟨q, 1, none⟩ = false := by
  have := h.box
  simp [World.cell?, World.frozen?, this]
theorem Cu.setW {W : World} {q bk off cp : Nat} {s : List UInt8} {wr : Bool} (h : Cu W q bk off cp s wr) (v : Bool) : Cu (W.setCell ⟨q, 1, none⟩ (.bool v)) q bk off cp s v := by
  have hl : q < W.heap.size := (Array.getElem?_eq_some_iff.1 h.box).1
  refine ⟨?_, Bytes.kept h.by_ (grownBy_setCell _ _ _ _) (fun x hx => by cases hx; simp; exact fun e => h.ne e.symm), h.le, h.ne, by simpa using h.lt⟩
  have h' := h.box
  simp [World.setCell, Array.getElem?_modify, h']
theorem Cu.setS {W : World} {q bk off cp off' cp' : Nat} {s t : List UInt8} {wr : Bool} (h : Cu W q bk off cp s wr) (hb : Bytes W (some ⟨bk, off', none⟩) t.length t) (hl : t.length ≤ cp') : Cu (W.setCell ⟨q, 0, none⟩ (.slice (some ⟨bk, off', none⟩) t.length cp')) q bk off' cp' t wr := by
  have hq : q < W.heap.size := (Array.getElem?_eq_some_iff.1 h.box).1
  refine ⟨?_, Bytes.kept hb (grownBy_setCell _ _ _ _) (fun x hx => by cases hx; simp; exact fun e => h.ne e.symm), hl, h.ne, by simpa using h.lt⟩
  have h' := h.box
  simp [World.setCell, Array.getElem?_modify, h']
theorem Cu.kept {W W' : World} {q bk off cp : Nat} {s : List UInt8} {wr : Bool} (h : Cu W q bk off cp s wr) (hB : Below W.heap.size W W') : Cu W' q bk off cp s wr :=
  ⟨(hB.block q (Array.getElem?_eq_some_iff.1 h.box).1).trans h.box, bytes_below h.by_ hB, h.le, h.ne, Nat.lt_of_lt_of_le h.lt hB.size⟩
theorem take_bad (W : World) (q bk off cp : Nat) (s : List UInt8) (wr : Bool) (n : Nat) (h : Cu W q bk off cp s wr) (hn : wr = true ∨ s.length < n) :
    Calls Tryz.prog 90 #[.pointer (some ⟨q, 0, none⟩), .int .i64 n] W fun e w' => e = .returned (.slice none 0 0) ∧ Cu w' q bk off cp s true ∧ W.grownBy w' (some q) := by
  obtain ⟨c0, c1, f0, f1⟩ := h.cell
  have H : Hid (Cu W q bk off cp s wr) := h
  cases wr with
  | true =>
    clear h hn
    go_enter Tryz.func90, Tryz.ntmps90
    go_wp2
    go_ret
    exact ⟨rfl, H.out.setW true, grownBy_setCell _ _ _ _⟩
  | false =>
    have hn' : s.length < n := hn.elim (fun h => by cases h) id
    have i1 : (s.length : Int) < (n : Int) := by omega
    clear h hn
    go_enter Tryz.func90, Tryz.ntmps90
    go_wp2
    go_ret
    exact ⟨rfl, H.out.setW true, grownBy_setCell _ _ _ _⟩
theorem take_ok (W : World) (q bk off cp : Nat) (s : List UInt8) (n : Nat) (h : Cu W q bk off cp s false) (hn : n ≤ s.length) :
    Calls Tryz.prog 90 #[.pointer (some ⟨q, 0, none⟩), .int .i64 n] W fun e w' => e = .returned (.slice (some ⟨bk, off, none⟩) n cp) ∧ (∃ off', Cu w' q bk off' (cp - n) (s.drop n) false) ∧ W.grownBy w' (some q) := by
  obtain ⟨c0, c1, f0, f1⟩ := h.cell
  have H : Hid (Cu W q bk off cp s false) := h
  have hle := h.le
  obtain ⟨k, hk⟩ : ∃ k, k = s.length := ⟨_, rfl⟩
  rw [← hk] at c0 hn hle
  have HK : Hid (k = s.length) := hk
  have i1 : ¬ (k : Int) < (n : Int) := by omega
  have i2 : (n : Int) ≤ (cp : Int) := by omega
  have i3 : (n : Int) ≤ (k : Int) := by omega
  have i4 : (0 : Int) ≤ (n : Int) := by omega
  have HS : Hid (∀ off' cp', Bytes W (some ⟨bk, off', none⟩) (k - n) (s.drop n) → k - n ≤ cp' → Cu (W.setCell ⟨q, 0, none⟩ (.slice (some ⟨bk, off', none⟩) (k - n) cp')) q bk off' cp' (s.drop n) false) := fun off' cp' hb hl => by
    have e1 : (s.drop n).length = k - n := by rw [List.length_drop, hk]
    have := h.setS (off' := off') (cp' := cp') (t := s.drop n) (by rw [e1]; exact hb) (by rw [e1]; exact hl)
    rw [e1] at this
    exact this
  have HBy : Hid (k - n = 0 ∨ Bytes W (some ⟨bk, off + n, none⟩) (k - n) (s.drop n)) := by
    by_cases h0 : k - n = 0
    · exact .inl h0
    · refine .inr ⟨by rw [List.length_drop, hk], fun _ => ?_⟩
      obtain ⟨b, o, e, hc⟩ := h.by_.2 (by omega)
      cases e
      refine ⟨bk, off + n, rfl, fun i hi => ?_⟩
      rw [bt_drop]
      have := hc (n + i) (by omega)
      rw [Nat.add_assoc]
      exact this
  clear h hk
  by_cases hcn : cp = n
  · subst hcn
    have e0 : k - cp = 0 := by omega
    go_enter Tryz.func90, Tryz.ntmps90
    go_wp2
    go_ret
    refine ⟨rfl, ⟨off, ?_⟩, grownBy_setCell _ _ _ _⟩
    have h1 := HS.out off (cp - cp) ⟨by rw [List.length_drop, ← HK.out], fun h => by omega⟩ (by omega)
    rw [Nat.sub_self, e0] at h1
    exact h1
  · go_enter Tryz.func90, Tryz.ntmps90
    go_wp2
    go_ret
    refine ⟨rfl, ⟨off + n, HS.out _ _ ?_ (by omega)⟩, grownBy_setCell _ _ _ _⟩
    rcases HBy.out with h0 | h0
    · exact ⟨by rw [List.length_drop, ← HK.out], fun h => by omega⟩
    · exact h0
end Go.Proofs.YthalpnpnbclipaaGreat
