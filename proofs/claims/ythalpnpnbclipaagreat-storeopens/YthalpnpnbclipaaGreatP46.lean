import Derived.Test.YthalpnpnbclipaaGreatP45
import Derived.Test.YthalpnpnbclipaaGreatP36
import Derived.Test.YthalpnpnbclipaaGreatRows
/- The walk of the law StoreOpens. -/
namespace Go.Proofs.YthalpnpnbclipaaGreat
open Go.RowKit Go.Shelf Go.Maps

attribute [local go_sem] Oper.semAt_some

/-- Open on the rows: it tells that they are broken, or has them -/
theorem sopens_end (w wr : World) (j d mb : Nat) (Q : Nat → Prop) (S : DG) (rs : List (List UInt8)) (X : Nat → Prop) (ia ra : Option Addr) (n ic rcp : Nat) (ids : List Int) (rows : List (List UInt8)) (wrong : Bool) (k : Nat) (h : OI w wr j d mb Q S rs X ia ra n ic rcp ids rows wrong k) (hk : k ≤ 40) :
    Calls Tryz.prog 9 #[.pointer (some ⟨d, 0, none⟩)] wr fun e w' => Below w.heap.size w w' ∧ ((wrong = true ∧ e = .returned (.tuple #[.pointer none, .int .i64 8])) ∨ (wrong = false ∧ ∃ s, e = .returned (.tuple #[.pointer (some ⟨s, 0, none⟩), .int .i64 0]) ∧ BoxM w' mb (.slice ia n ic) (.slice ra n rcp) ∧ Calls Tryz.prog 17 #[.pointer (some ⟨s, 0, none⟩), .agg #[.slice ia n ic, .slice ra n rcp]] w' fun e w'' => e = .returned (.bool true) ∧ Below w'.heap.size w' w'')) := by
  obtain ⟨F, G, a1, a2, a3, a4, a5, a6⟩ := h.jl
  have hSn := h.gd.n
  have hwr := h.gd.wr
  obtain ⟨c1, c2, c3, c4⟩ := h.cnt
  have hkm : k * 5018 ≤ 40 * 5018 := Nat.mul_le_mul hk (Nat.le_refl _)
  obtain ⟨ho, hpa⟩ := h.gd.opened
  refine (sopen_any wr d S G a2 (by rw [h.gd.get]; omega) (by omega) (by unfold maxLen; omega)).mono ?_
  rintro e w' ⟨hT, G', hd', hG', hcs⟩
  have hbel : Below w.heap.size w w' := h.bel.trans (hT.below h.bel.size (fun z hz => (h.q z (a5 z hz)).1))
  refine ⟨hbel, ?_⟩
  rw [ho, hpa] at hcs
  cases wrong with
  | true =>
    rw [h.yes rfl] at hcs
    rcases hcs with ⟨h0, _⟩ | ⟨_, _, he⟩ | ⟨_, os', h0, _⟩ | ⟨_, os', s, F', h0, _⟩
    · exact absurd rfl h0
    · exact .inl ⟨rfl, he⟩
    · cases h0
    · cases h0
  | false =>
    obtain ⟨os, h1, h2, h3⟩ := h.no rfl
    rw [h1] at hcs
    have hol := loadG_len rs [] os h1
    simp only [List.length_nil] at hol
    rcases hcs with ⟨h0, _⟩ | ⟨_, h0, _⟩ | ⟨_, os', h0, h0', _⟩ | ⟨_, os', s, F', h0, h0', he, hS, hF, hFG⟩
    · exact absurd rfl h0
    · cases h0
    · cases h0; omega
    · cases h0
      have hrm : RM X w' ia ra n ids rows := h.rm.turn hT (fun z hz e => (h.xq z hz).1 (a5 z e))
      rw [h2, h3] at hrm
      refine .inr ⟨rfl, s, he, h.bx.turn hT (fun e => (h.q _ (a5 _ e)).2 rfl), holds_any w' s d os _ _ F' hS (load_pure h1 c4) (fun o ho => load_good h1 c4 o ho) X ia ra n ic rcp hrm (by omega)⟩

set_option maxRecDepth 100000 in
set_option maxHeartbeats 8000000 in
theorem storeOpens_walk (w : World) (a : Option Addr) (m c : Nat) (E : Nat → El) (hl : Lists w a m E) :
    Calls Tryz.prog 4 #[.slice a m c] w fun e w' => e = .returned (.bool true) ∧ Below w.heap.size w w' := by
  have hwk := swakes_any
  have hnw := new_any
  have HL : Hid (Lists w a m E) := hl
  clear hl
  go_enter Tryz.func4, Tryz.ntmps4
  go_wp2_with first
    | (go_at_call 7; refine (hwk _).mono ?_; rintro e w1 ⟨rfl, B1⟩)
    | (go_at_call 8; refine (hnw _).mono ?_; clear hnw; rintro e w2 ⟨rfl, hd2, B2⟩; have hx := jl_open w2 _ _ _ objNm [] hd2 (by decide) (JGd.new _) (by simp [fileB]))
  refine hx.mono ?_
  clear hx
  rintro e w3 ⟨j, rfl, hL3, hT3⟩
  have B3 : Below w.heap.size w w3 := B1.trans ((B2.trans (hT3.below B2.size (by rintro k (rfl | rfl) <;> omega))).mono B1.size)
  have Q3 : Hid (∀ k, grow (fun k => k = w1.heap.size ∨ k = w1.heap.size + 1) w2 w3 k → w.heap.size ≤ k) := fun k hk => hk.elim (fun h => by have := B1.size; omega) (fun h => by have := B1.size; have := B2.size; omega)
  obtain ⟨Q, hQ⟩ : ∃ Q, Q = grow (fun k => k = w1.heap.size ∨ k = w1.heap.size + 1) w2 w3 := ⟨_, rfl⟩
  rw [← hQ] at hL3 Q3
  have HL3 : Hid (JL Q w3 j (w1.heap.size + 1) objNm [] ⟨fun _ => none, 0, 0, false, 0⟩ ∧ Below w.heap.size w w3) := ⟨hL3, B3⟩
  clear hQ hT3 B2 B1 hd2 B3 hL3
  generalize w1.heap.size + 1 = d at *
  go_wp2_with (go_at_call 7; refine (hwk _).mono ?_; rintro e w4 ⟨rfl, B4⟩)
  have HI0 : Hid (OI w (w4.alloc (.cells #[.slice none 0 0, .slice none 0 0] 35)) j d w4.heap.size Q ⟨fun _ => none, 0, 0, false, 0⟩ [] (fun _ => False) none none 0 0 0 [] [] false 0) := by
    obtain ⟨hJ, hb⟩ := HL3.out
    have hB : Below w4.heap.size w4 (w4.alloc (.cells #[.slice none 0 0, .slice none 0 0] 35)) := (Below.refl _ _).alloc (Nat.le_refl _) _
    have hb4 : Below w.heap.size w w4 := hb.trans (B4.mono hb.size)
    have hJ4 := hJ.below B4
    refine ⟨hJ4.below hB, JGd.new _, ⟨rfl, rfl, fun k hk => hk.elim, fun _ => ⟨none, 0, 0, []⟩, fun W _ => ⟨⟨rfl, fun h => absurd h (by omega)⟩, fun k hk => absurd hk (by omega)⟩⟩, World.alloc_heap_new _ _, fun z hz => hz.elim, fun z hz => ⟨Q3.out z hz, by have := hJ4.qlt z hz; omega⟩, hb4.size, hb4.trans (hB.mono hb4.size), ⟨Nat.zero_le _, rfl, by simp [fileB], fun r hr => by cases hr⟩, fun _ => ⟨[], rfl, rfl, rfl⟩, fun h => by cases h⟩
  generalize w4.heap.size = mb at *
  clear HL3 Q3 B4
  go_loopw [7, 8, 36] (fun wv sv i wr => ∃ (k : Nat) (Q : Nat → Prop) (S : DG) (rs : List (List UInt8)) (X : Nat → Prop) (ia ra : Option Addr) (n ic rcp : Nat) (ids : List Int) (rows : List (List UInt8)) (wrong : Bool) (sz : Nat), k ≤ m ∧ k ≤ 40 ∧ i = .int .i64 (k : Int) ∧ wv = .bool wrong ∧ sv = .int .i64 (sz : Int) ∧ sz ≤ k * 5018 ∧ Hid (OI w wr j d mb Q S rs X ia ra n ic rcp ids rows wrong k)) (fun _ _ i _ => m - (intOf i).toNat)
  case atStart => exact ⟨0, Q, _, [], _, none, none, 0, 0, 0, [], [], false, 0, Nat.zero_le _, Nat.zero_le _, rfl, rfl, rfl, Nat.zero_le _, HI0⟩
  case round =>
    clear HI0 Q
    obtain ⟨k, Q, S, rs, X, ia, ra, n, ic, rcp, ids, rows, wrong, sz, hk, hk40, rfl, rfl, rfl, hsz, H⟩ := hrel
    have hszb : k * 5018 ≤ 40 * 5018 := Nat.mul_le_mul hk40 (Nat.le_refl _)
    by_cases hlt : k < m
    · obtain ⟨b0, off, rfl, hc⟩ := HL.out.1 (by omega)
      obtain ⟨hbE, hmc, hnilE, hmx⟩ := HL.out.2 k hlt
      have hck : wr.cell? ⟨b0, off + k, none⟩ = some (.slice (E k).x (E k).m (E k).c) := (H.out.bel.cell (p := ⟨b0, off + k, none⟩) (World.block_lt_of_cell? w _ (hc k hlt))).trans (hc k hlt)
      obtain ⟨x, bm, cx, lx, hE⟩ : ∃ x m cx lx, E k = ⟨x, m, cx, lx⟩ := ⟨_, _, _, _, rfl⟩
      rw [hE] at hck hbE hmc hnilE hmx
      simp only at hck hbE hmc hnilE hmx
      have i1 : (k : Int) < (m : Int) := by omega
      have i3 : ¬ m ≤ k := by omega
      clear hc hE
      by_cases h40 : k = 40
      · subst h40
        clear hbE hmc hnilE hmx
        have HT : Hid (OI w wr j d mb Q S rs X ia ra n ic rcp ids rows wrong 40) := H
        have hop := sopens_end w wr j d mb Q S rs X ia ra n ic rcp ids rows wrong 40 HT.out (by omega)
        obtain ⟨q0, q1⟩ := H.out.bx.cell
        clear H
        cases wrong with
        | true =>
          go_wp2_with (go_at_call 9; refine hop.mono ?_; clear hop; rintro e w6 ⟨hB6, (⟨_, rfl⟩ | ⟨hf, _⟩)⟩; rotate_left; cases hf)
          go_ret
          exact ⟨rfl, hB6⟩
        | false =>
          go_wp2_with first
            | (go_at_call 9; refine hop.mono ?_; clear hop; rintro e w6 ⟨hB6, (⟨hf, _⟩ | ⟨_, s, rfl, hbx, hh⟩)⟩; cases hf; obtain ⟨k0, k1⟩ := hbx.cell; clear hbx q0 q1)
            | (go_at_call 17; refine hh.mono ?_; clear hh; rintro e w7 ⟨rfl, hB7⟩)
          go_ret
          exact ⟨rfl, hB6.trans (hB7.mono hB6.size)⟩
      · have i4 : ¬ (k : Int) = 40 := by omega
        by_cases h5 : 5000 < bm
        · have i5 : (5000 : Int) < (bm : Int) := by omega
          clear hbE hmc hnilE hmx
          have HT : Hid (OI w wr j d mb Q S rs X ia ra n ic rcp ids rows wrong k) := H
          have hop := sopens_end w wr j d mb Q S rs X ia ra n ic rcp ids rows wrong k HT.out (by omega)
          obtain ⟨q0, q1⟩ := H.out.bx.cell
          clear H
          cases wrong with
          | true =>
            go_wp2_with (go_at_call 9; refine hop.mono ?_; clear hop; rintro e w6 ⟨hB6, (⟨_, rfl⟩ | ⟨hf, _⟩)⟩; rotate_left; cases hf)
            go_ret
            exact ⟨rfl, hB6⟩
          | false =>
            go_wp2_with first
              | (go_at_call 9; refine hop.mono ?_; clear hop; rintro e w6 ⟨hB6, (⟨hf, _⟩ | ⟨_, s, rfl, hbx, hh⟩)⟩; cases hf; obtain ⟨k0, k1⟩ := hbx.cell; clear hbx q0 q1)
              | (go_at_call 17; refine hh.mono ?_; clear hh; rintro e w7 ⟨rfl, hB7⟩)
            go_ret
            exact ⟨rfl, hB6.trans (hB7.mono hB6.size)⟩
        · have i5 : ¬ (5000 : Int) < (bm : Int) := by omega
          have hbw := (Turn.of_below (fun _ => False) H.out.bel).bytes hbE (fun _ _ _ => id)
          have hx5 := refRecord_any x bm cx lx wr hbw (by omega)
          have hrb := (recB_pos lx).2
          have hll := hbE.1
          rw [hll] at hrb
          obtain ⟨rn, hrn⟩ : ∃ rn, rn = (recB lx).length := ⟨_, rfl⟩
          rw [← hrn] at hx5 hrb
          have Hb : Hid (Bytes w x bm lx ∧ bm ≤ cx ∧ (x = none → bm = 0 ∧ cx = 0) ∧ lx.length = bm) := ⟨hbE, hmc, hnilE, hll⟩
          clear hbE hmc hnilE hmx hbw hrn hll
          go_wp2_with fail
          refine hx5.mono ?_
          clear hx5
          rintro e w5 ⟨br, rfl, _, hB5, _⟩
          have H5 : Hid (OI w w5 j d mb Q S rs X ia ra n ic rcp ids rows wrong k) := H.out.below hB5
          clear hB5
          have hba : Bytes (w5.alloc (.cells #[] 5)) x bm lx := (Turn.of_below (fun _ => False) (H5.out.bel.alloc H5.out.bel.size _)).bytes Hb.out.1 (fun _ _ _ => id)
          have hsz2 : bm ≤ 140737488355328 := by omega
          go_wp2_with (at_builtin; refine wpList_append_row _ rfl _ _ rfl (.slice (some ⟨w5.heap.size, 0, none⟩) 0 0) 0 [] rfl (empty_row w5) x bm cx lx rfl hba Hb.out.2.2.1 (by omega) ?_; intro v6 w6 hown6 hgr6 hat6; obtain ⟨a6, c6, rfl, hnc6, hnil6⟩ := ownsRow_shape' hown6)
          rw [Nat.zero_add] at hown6 hnc6 hnil6
          rw [List.nil_append] at hown6
          have hB6 : Below w5.heap.size w5 w6 := ((Below.refl _ w5).alloc (Nat.le_refl _) _).grown hgr6 (by simp) (fun k hk => by cases hk; exact Nat.le_refl _)
          have H6 := H5.out.below hB6
          have hblk : ∀ y, a6 = some y → w5.heap.size ≤ y.block := by
            intro y hy
            subst hy
            rcases hown6.2 with ⟨e2, _⟩ | ⟨g, cap, cur, e2, _⟩
            · cases e2
            · cases e2
              rcases hat6 with e | e
              · simp [Value.ownBlock] at e; simp; omega
              · simp [Value.ownBlock] at e; simp; omega
          have hap := jl_append Q w6 j d S objNm rs H6.jl (by decide) (by decide) H6.gd a6 bm c6 lx (ownsRow_toBytes hown6).1 (by omega) (fun _ y hy hq => by have h1 := H5.out.jl.qlt _ hq; have h2 := hblk y hy; omega) (by have := (recB_pos lx).2; have := H6.cnt.2.2.1; have := Hb.out.2.2.2; omega)
          have HO6 : Hid (OI w w6 j d mb Q S rs X ia ra n ic rcp ids rows wrong k) := H6
          clear H5 hown6 hgr6 hat6 hB6 H6 hba hnc6 hnil6 H
          go_wp2_with fail
          refine hap.mono ?_
          clear hap hblk
          rintro e w7 ⟨rfl, ⟨S7, hJ7, hG7⟩, hT7⟩
          obtain ⟨rm7, bx7, xq7, q7, bel7⟩ := HO6.out.app hT7
          have HJ7 : Hid (JL (grow Q w6 w7) w7 j d objNm (rs ++ [lx]) S7 ∧ JGd S7 objNm.data.toList (rs ++ [lx]) ∧ (∀ z, grow Q w6 w7 z → w.heap.size ≤ z ∧ z ≠ mb) ∧ (∀ z, X z → ¬ grow Q w6 w7 z ∧ z ≠ mb) ∧ Below w.heap.size w w7 ∧ BoxM w7 mb (.slice ia n ic) (.slice ra n rcp) ∧ RM X w7 ia ra n ids rows) := ⟨hJ7, hG7, q7, xq7, bel7, bx7, rm7⟩
          generalize grow Q w6 w7 = Q7 at HJ7
          obtain ⟨q0, q1⟩ := bx7.cell
          have hmb7 := bx7.lt
          have hb7 : Bytes w7 x bm lx := (Turn.of_below (fun _ => False) bel7).bytes Hb.out.1 (fun _ _ _ => id)
          have hbx7 : BytesX (fun z => z < w.heap.size) w7 x bm lx := fun W hW => ⟨Hb.out.1.1, fun h0 => by
            obtain ⟨b, of, e, hc⟩ := Hb.out.1.2 h0
            refine ⟨b, of, e, fun i hi => ?_⟩
            have hlt := World.block_lt_of_cell? w _ (hc i hi)
            rw [World.cell?_of_block ((hW b hlt).trans (bel7.block b hlt))]
            exact hc i hi⟩
          have hnw := next_wrong HO6.out.no HO6.out.yes lx (by rw [Hb.out.2.2.2]; omega)
          have hk7 := HO6.out.cnt.1
          have HST : Hid _ := @OI.step w w6 w7
          have hsn : sz + rn ≤ (k + 1) * 5018 := by rw [Nat.add_mul]; omega
          have hsn2 : (k + 1) * 5018 ≤ 40 * 5018 := Nat.mul_le_mul (by omega) (Nat.le_refl _)
          have hlx : lx.length ≤ 5000 := by rw [Hb.out.2.2.2]; omega
          have hn1 : n ≤ 100000 := by omega
          have hmaxb : bm ≤ maxLen := by unfold maxLen; omega
          have HREL : Hid (∀ (W9 : World) (X' : Nat → Prop) (ia' ra' : Option Addr) (n' ic' rcp' : Nat) (ids' : List Int) (rows' : List (List UInt8)) (wrong' : Bool), Below w7.heap.size w7 W9 → RM X' W9 ia' ra' n' ids' rows' → (∀ z, X' z → ¬ Q7 z ∧ z ≠ mb) → n' ≤ n + 1 → (wrong' = false → ∃ os, loadG (rs ++ [lx]) [] = some os ∧ ids' = oids os ∧ rows' = os.map obB) → (wrong' = true → loadG (rs ++ [lx]) [] = none) → ∀ Wf : World, Below ((W9.setCell ⟨mb, 0, none⟩ (.slice ia' n' ic')).setCell ⟨mb, 1, none⟩ (.slice ra' n' rcp')).heap.size ((W9.setCell ⟨mb, 0, none⟩ (.slice ia' n' ic')).setCell ⟨mb, 1, none⟩ (.slice ra' n' rcp')) Wf →
              (∃ (k' : Nat) (Q : Nat → Prop) (S : DG) (rs : List (List UInt8)) (X : Nat → Prop) (ia ra : Option Addr) (n ic rcp : Nat) (ids : List Int) (rows : List (List UInt8)) (wrong : Bool) (sz' : Nat), k' ≤ m ∧ k' ≤ 40 ∧ Value.int .i64 ((k : Int) + 1) = .int .i64 (k' : Int) ∧ Value.bool wrong' = .bool wrong ∧ Value.int .i64 ((sz : Int) + (rn : Int)) = .int .i64 (sz' : Int) ∧ sz' ≤ k' * 5018 ∧ Hid (OI w Wf j d mb Q S rs X ia ra n ic rcp ids rows wrong k')) ∧ m - (intOf (Value.int .i64 ((k : Int) + 1))).toNat < m - (intOf (Value.int .i64 (k : Int))).toNat) := fun W9 X' ia' ra' n' ic' rcp' ids' rows' wrong' hB9 hrm hx' hn' hno hyes Wf hWf =>
            ⟨⟨k + 1, Q7, S7, rs ++ [lx], X', ia', ra', n', ic', rcp', ids', rows', wrong', sz + rn, by omega, by omega, by simp, rfl, by simp, hsn, (HO6.out.step HJ7.out.1 HJ7.out.2.1 HJ7.out.2.2.1 HJ7.out.2.2.2.2.1 HJ7.out.2.2.2.2.2.1 hB9 hrm hx' hn' hlx hno hyes).below hWf⟩, by simp [intOf]; omega⟩
          have HNW : Hid _ := hnw
          clear hJ7 hG7 hT7 rm7 bx7 xq7 q7 hnw hlx
          cases hfx : fidx ids (idOf lx) with
          | some kk =>
            have hput := srefPut_there X ia ra n ic rcp ids rows w7 HJ7.out.2.2.2.2.2.2 hn1 x bm cx lx hb7 hmaxb kk hfx (by have := fidx_lt hfx; rw [HJ7.out.2.2.2.2.2.2.li] at this; exact this)
            have HFX : Hid ((fidx ids (idOf lx)).isSome = true) := (by rw [hfx]; rfl : (fidx ids (idOf lx)).isSome = true)
            clear hfx hbx7
            cases wrong with
            | true =>
              have HN1 : Hid (loadG (rs ++ [lx]) [] = none) := HNW.out.1 rfl
              clear HNW
              go_wp2_with (go_at_call 13; refine hput.mono ?_; clear hput; rintro e w8 ⟨rfl, hB8⟩; have bx8 := HJ7.out.2.2.2.2.2.1.turn (Turn.of_below (fun _ => False) hB8) id; obtain ⟨k0, k1⟩ := bx8.cell; obtain ⟨f0, f1⟩ := bx8.frozen; have hmb8 := bx8.lt; have HB8 : Hid (Below w7.heap.size w7 w8) := hB8; clear hB8 bx8 q0 q1 hb7)
              exact HREL.out w8 X ia ra n ic rcp ids rows true HB8.out (HJ7.out.2.2.2.2.2.2.below HB8.out) HJ7.out.2.2.2.1 (by omega) (fun h => by cases h) (fun _ => HN1.out) _ ((Below.refl _ _).alloc (Nat.le_refl _) _)
            | false =>
              have HN1 : Hid (loadG (rs ++ [lx]) [] = none) := HNW.out.2.1 rfl HFX.out
              clear HNW
              go_wp2_with (go_at_call 13; refine hput.mono ?_; clear hput; rintro e w8 ⟨rfl, hB8⟩; have bx8 := HJ7.out.2.2.2.2.2.1.turn (Turn.of_below (fun _ => False) hB8) id; obtain ⟨k0, k1⟩ := bx8.cell; obtain ⟨f0, f1⟩ := bx8.frozen; have hmb8 := bx8.lt; have HB8 : Hid (Below w7.heap.size w7 w8) := hB8; clear hB8 bx8 q0 q1 hb7)
              exact HREL.out w8 X ia ra n ic rcp ids rows true HB8.out (HJ7.out.2.2.2.2.2.2.below HB8.out) HJ7.out.2.2.2.1 (by omega) (fun h => by cases h) (fun _ => HN1.out) _ ((Below.refl _ _).alloc (Nat.le_refl _) _)
          | none =>
            have hput := srefPut_new X (fun z => z < w.heap.size) ia ra n ic rcp ids rows w7 HJ7.out.2.2.2.2.2.2 (by omega) x bm cx lx hbx7 (fun z hz => Nat.lt_of_lt_of_le hz bel7.size) hmaxb hfx
            obtain ⟨n1, hn1e⟩ : ∃ n1, n1 = n + 1 := ⟨_, rfl⟩
            unfold PutNew at hput
            rw [← hn1e] at hput
            have HN1E : Hid (n1 = n + 1) := hn1e
            have i8 : ¬ (n1 : Int) = (n : Int) := by omega
            have i9 : ¬ n1 = n := by omega
            have i8b : ((n1 : Int) == (n : Int)) = false := beq_eq_false_iff_ne.2 i8
            clear hn1e
            have HFX : Hid (fidx ids (idOf lx) = none) := hfx
            have HXX : Hid (∀ (w8 : World), ∀ z, (X z ∨ z < w.heap.size ∨ (w7.heap.size ≤ z ∧ z < w8.heap.size)) → ¬ Q7 z ∧ z ≠ mb) := fun w8 z hz => by
              have hmbw := HO6.out.mbw
              rcases hz with hz | hz | hz
              · exact HJ7.out.2.2.2.1 z hz
              · exact ⟨fun e => by have := (HJ7.out.2.2.1 z e).1; omega, by omega⟩
              · exact ⟨fun e => by have := HJ7.out.1.qlt z e; omega, by omega⟩
            clear hfx hbx7
            cases wrong with
            | true =>
              have HN1 : Hid (loadG (rs ++ [lx]) [] = none) := HNW.out.1 rfl
              clear HNW
              go_wp2_with (go_at_call 13; refine hput.mono ?_; clear hput; rintro e w8 ⟨ia', ic', ra', rcp', rfl, hrm8, hB8⟩; have bx8 := HJ7.out.2.2.2.2.2.1.turn (Turn.of_below (fun _ => False) hB8) id; obtain ⟨k0, k1⟩ := bx8.cell; obtain ⟨f0, f1⟩ := bx8.frozen; have hmb8 := bx8.lt; have HB8 : Hid (Below w7.heap.size w7 w8 ∧ RM (fun z => X z ∨ z < w.heap.size ∨ (w7.heap.size ≤ z ∧ z < w8.heap.size)) w8 ia' ra' n1 (ids ++ [idOf lx]) (rows ++ [lx])) := ⟨hB8, hrm8⟩; clear hB8 bx8 q0 q1 hb7 hrm8)
              exact HREL.out w8 _ ia' ra' n1 ic' rcp' _ _ true HB8.out.1 HB8.out.2 (HXX.out w8) (by have := HN1E.out; omega) (fun h => by cases h) (fun _ => HN1.out) _ ((Below.refl _ _).alloc (Nat.le_refl _) _)
            | false =>
              by_cases hdg : (decG lx).isSome = true
              · have HN1 : Hid (∃ os, loadG (rs ++ [lx]) [] = some os ∧ ids ++ [idOf lx] = oids os ∧ rows ++ [lx] = os.map obB) := HNW.out.2.2.2 rfl HFX.out hdg
                have hri := fun W (hB : Below w7.heap.size w7 W) => refRight_any x bm cx lx W ((Turn.of_below (fun _ => False) hB).bytes hb7 (fun _ _ _ => id)) Hb.out.2.1 (by omega)
                rw [hdg] at hri
                have HRI : Hid (∀ W, Below w7.heap.size w7 W → Calls Tryz.prog 21 #[.slice x bm cx] W fun e w' => e = .returned (.bool true) ∧ Below W.heap.size W w') := hri
                clear hri hdg HNW
                go_wp2_with first
                  | (go_at_call 13; refine hput.mono ?_; clear hput; rintro e w8 ⟨ia', ic', ra', rcp', rfl, hrm8, hB8⟩; have bx8 := HJ7.out.2.2.2.2.2.1.turn (Turn.of_below (fun _ => False) hB8) id; obtain ⟨k0, k1⟩ := bx8.cell; have hmb8 := bx8.lt; have hBa : Below w8.heap.size w8 (w8.alloc (.cells #[.slice ia' n1 ic', .slice ra' n1 rcp'] 35)) := (Below.refl _ _).alloc (Nat.le_refl _) _; have HB8 : Hid (Below w7.heap.size w7 (w8.alloc (.cells #[.slice ia' n1 ic', .slice ra' n1 rcp'] 35)) ∧ RM (fun z => X z ∨ z < w.heap.size ∨ (w7.heap.size ≤ z ∧ z < w8.heap.size)) (w8.alloc (.cells #[.slice ia' n1 ic', .slice ra' n1 rcp'] 35)) ia' ra' n1 (ids ++ [idOf lx]) (rows ++ [lx]) ∧ BoxM (w8.alloc (.cells #[.slice ia' n1 ic', .slice ra' n1 rcp'] 35)) w8.heap.size (.slice ia' n1 ic') (.slice ra' n1 rcp')) := ⟨hB8.alloc hB8.size _, hrm8.below hBa, World.alloc_heap_new _ _⟩; clear hB8 bx8 q0 q1 hb7 hrm8 hBa)
                  | (go_at_call 21; refine (HRI.out _ HB8.out.1).mono ?_; clear HRI; rintro e w9 ⟨rfl, hB9⟩; have bx9 := HJ7.out.2.2.2.2.2.1.turn (Turn.of_below (fun _ => False) (HB8.out.1.trans (hB9.mono HB8.out.1.size))) id; obtain ⟨k0', k1'⟩ := bx9.cell; obtain ⟨f0, f1⟩ := bx9.frozen; obtain ⟨l0, l1⟩ := (HB8.out.2.2.turn (Turn.of_below (fun _ => False) hB9) id).cell; have HB9 : Hid (Below w7.heap.size w7 w9 ∧ RM (fun z => X z ∨ z < w.heap.size ∨ (w7.heap.size ≤ z ∧ z < w8.heap.size)) w9 ia' ra' n1 (ids ++ [idOf lx]) (rows ++ [lx])) := ⟨HB8.out.1.trans (hB9.mono HB8.out.1.size), HB8.out.2.1.below hB9⟩; clear hB9 bx9 k0 k1)
                exact HREL.out _ _ ia' ra' n1 ic' rcp' _ _ false HB9.out.1 HB9.out.2 (HXX.out w8) (by have := HN1E.out; omega) (fun _ => HN1.out) (fun h => by cases h) _ (Below.refl _ _)
              · have hdn : decG lx = none := by simpa using hdg
                have hri := fun W (hB : Below w7.heap.size w7 W) => refRight_any x bm cx lx W ((Turn.of_below (fun _ => False) hB).bytes hb7 (fun _ _ _ => id)) Hb.out.2.1 (by omega)
                rw [hdn] at hri
                have HRI : Hid (∀ W, Below w7.heap.size w7 W → Calls Tryz.prog 21 #[.slice x bm cx] W fun e w' => e = .returned (.bool false) ∧ Below W.heap.size W w') := hri
                have HN1 : Hid (loadG (rs ++ [lx]) [] = none) := HNW.out.2.2.1 rfl hdn
                clear hri hdn hdg HNW
                go_wp2_with first
                  | (go_at_call 13; refine hput.mono ?_; clear hput; rintro e w8 ⟨ia', ic', ra', rcp', rfl, hrm8, hB8⟩; have bx8 := HJ7.out.2.2.2.2.2.1.turn (Turn.of_below (fun _ => False) hB8) id; obtain ⟨k0, k1⟩ := bx8.cell; have hmb8 := bx8.lt; have hBa : Below w8.heap.size w8 (w8.alloc (.cells #[.slice ia' n1 ic', .slice ra' n1 rcp'] 35)) := (Below.refl _ _).alloc (Nat.le_refl _) _; have HB8 : Hid (Below w7.heap.size w7 (w8.alloc (.cells #[.slice ia' n1 ic', .slice ra' n1 rcp'] 35)) ∧ RM (fun z => X z ∨ z < w.heap.size ∨ (w7.heap.size ≤ z ∧ z < w8.heap.size)) (w8.alloc (.cells #[.slice ia' n1 ic', .slice ra' n1 rcp'] 35)) ia' ra' n1 (ids ++ [idOf lx]) (rows ++ [lx]) ∧ BoxM (w8.alloc (.cells #[.slice ia' n1 ic', .slice ra' n1 rcp'] 35)) w8.heap.size (.slice ia' n1 ic') (.slice ra' n1 rcp')) := ⟨hB8.alloc hB8.size _, hrm8.below hBa, World.alloc_heap_new _ _⟩; clear hB8 bx8 q0 q1 hb7 hrm8 hBa)
                  | (go_at_call 21; refine (HRI.out _ HB8.out.1).mono ?_; clear HRI; rintro e w9 ⟨rfl, hB9⟩; have bx9 := HJ7.out.2.2.2.2.2.1.turn (Turn.of_below (fun _ => False) (HB8.out.1.trans (hB9.mono HB8.out.1.size))) id; obtain ⟨k0', k1'⟩ := bx9.cell; obtain ⟨f0, f1⟩ := bx9.frozen; obtain ⟨l0, l1⟩ := (HB8.out.2.2.turn (Turn.of_below (fun _ => False) hB9) id).cell; have HB9 : Hid (Below w7.heap.size w7 w9 ∧ RM (fun z => X z ∨ z < w.heap.size ∨ (w7.heap.size ≤ z ∧ z < w8.heap.size)) w9 ia' ra' n1 (ids ++ [idOf lx]) (rows ++ [lx])) := ⟨HB8.out.1.trans (hB9.mono HB8.out.1.size), HB8.out.2.1.below hB9⟩; clear hB9 bx9 k0 k1)
                exact HREL.out _ _ ia' ra' n1 ic' rcp' _ _ true HB9.out.1 HB9.out.2 (HXX.out w8) (by have := HN1E.out; omega) (fun h => by cases h) (fun _ => HN1.out) _ (Below.refl _ _)
    · obtain rfl : k = m := by omega
      have i2 : ¬ (k : Int) < (k : Int) := by omega
      have HT : Hid (OI w wr j d mb Q S rs X ia ra n ic rcp ids rows wrong k) := H
      have hop := sopens_end w wr j d mb Q S rs X ia ra n ic rcp ids rows wrong k HT.out (by omega)
      obtain ⟨q0, q1⟩ := H.out.bx.cell
      clear H
      cases wrong with
      | true =>
        go_wp2_with (go_at_call 9; refine hop.mono ?_; clear hop; rintro e w6 ⟨hB6, (⟨_, rfl⟩ | ⟨hf, _⟩)⟩; rotate_left; cases hf)
        go_ret
        exact ⟨rfl, hB6⟩
      | false =>
        go_wp2_with first
          | (go_at_call 9; refine hop.mono ?_; clear hop; rintro e w6 ⟨hB6, (⟨hf, _⟩ | ⟨_, s, rfl, hbx, hh⟩)⟩; cases hf; obtain ⟨k0, k1⟩ := hbx.cell; clear hbx q0 q1)
          | (go_at_call 17; refine hh.mono ?_; clear hh; rintro e w7 ⟨rfl, hB7⟩)
        go_ret
        exact ⟨rfl, hB6.trans (hB7.mono hB6.size)⟩
end Go.Proofs.YthalpnpnbclipaaGreat

/- Proved here: for every list of rows of bytes the law StoreOpens (a file of any records is opened as the document says) returns true, and its argument reads as before. No condition. -/
namespace Go.Proofs.YthalpnpnbclipaaGreat
open Go.RowKit
open Go.ChangeShapes Go.WideShapes Go.ChangeAt

theorem own : ownKnob Tryz.prog.godebug = none := by kernel_rfl
theorem laidOut : laidOutB Tryz.prog = true := by kernel_rfl

set_option maxRecDepth 100000 in
theorem storeOpens_lifted (os : Os) (started : os.Started) (H : Type) (enc : TypeId × Value → H) :
    ReturnsInHanded {} Tryz.checked os 4 .any (Rows.storeOpensSpec.pre6 enc Tryz.prog Tryz.f4 Rows.storeOpensRow.domain false) (Rows.storeOpensSpec.post enc Tryz.prog Tryz.f4 false true false false) := by
  refine returnsInHanded_of_change_sized (C := Tryz.checked) own started (by kernel_rfl) Tryz.func4
    (ChangeSpec.witness6 (enc := enc) (C := Tryz.checked) false ⟨#[], #[.slice none 0 0], []⟩ 8 (by kernel_rfl) (by kernel_rfl) (by kernel_rfl) (by kernel_rfl)) ?_
  intro W base args ds gs before hval0 hW _ hsz0 _
  have hval : ∀ (j : Nat) t v, Tryz.f4.params[j]? = some t → args[j]? = some v → Value.okWide Tryz.prog W .any base t v := hval0
  have hW' := hW
  obtain ⟨p, q, hA0, hV, rfl, _, _⟩ := hW
  have hA : DataW.TrodAll enc Tryz.prog W 0 (fun _ => true) true Tryz.f4.params.toList args.toList ds p := hA0
  rw [Tryz.params4] at hA hval
  obtain ⟨v0, vs0, d0, ds0, p0, q0, hargs, rfl, rfl, h0, r0⟩ := trodAll_cons hA
  obtain ⟨rfl, rfl, rfl⟩ := trodAll_nil r0
  obtain rfl : args = #[v0] := by cases args; simp_all
  obtain ⟨rfl, rfl⟩ := trodVars_none hV
  have k0 := h0
  have lt0 : ∀ x ∈ p0, x.block < W.heap.size := by obtain ⟨m, hm⟩ := k0; exact DataW.trod_lt m _ _ _ hm
  obtain ⟨a0, n0, cap0, E0, rfl, hl0, _⟩ := lists_arg (hval 0 33 v0 rfl rfl) h0
  clear hA0 hval0 hsz0
  refine (storeOpens_walk W a0 n0 cap0 E0 hl0).mono fun e W' ⟨he, bel⟩ => ?_
  subst he
  exact ⟨_, rfl, _, _, _, [], _, [], hW', trodAll_mk1 (shut_bool Tryz.underlying4 _), trodAll_cons_mk (Below.trod laidOut (by kernel_rfl) (of_decide_eq_true (by kernel_rfl)) k0 bel lt0) trodAll_mk0, rfl, bel.frame _, fun h => by cases h⟩

theorem storeOpens_holds : Rows.StoreOpensSaid :=
  OpenClaim.holds_of_wide 4 Tryz.f4 rfl rfl rfl rfl rfl rfl rfl ⟨rfl, rfl, rfl, rfl, rfl⟩ rfl rfl rfl rfl rfl (by kernel_rfl) Tryz.func4 (by kernel_rfl)
    (of_decide_eq_true (by kernel_rfl)) (by unfold Func.isWrapper; first | (rw [if_pos (by decide +kernel)]; kernel_rfl) | (rw [if_neg (by decide +kernel)]; exact ⟨rfl, rfl⟩))
    (fun os started H enc _ => storeOpens_lifted os started H enc)
#print axioms storeOpens_holds

end Go.Proofs.YthalpnpnbclipaaGreat
