import Derived.Test.YtiafhbpklddlnaaGreatDoorE34
import Derived.Test.YtiafhbpklddlnaaGreatDoorE35
/- The law's own `under`. -/
namespace Go.Proofs.YtiafhbpklddlnaaGreatDoor
open Go.RowKit Go.Shelf Go.Maps

attribute [local go_sem] Oper.semAt_some

/-- a cell of a row of one's own, read and written -/
theorem rowc_cell {w : World} {B n cap g t : Nat} {xs : List Value} {u : Value} (h : w.ownsRow B 38 2 (.slice (some ⟨g, 0, none⟩) n cap) n xs) (ht : xs[t]? = some u) : w.cell? ⟨g, t, none⟩ = some u ∧ w.frozen? ⟨g, t, none⟩ = false ∧ B ≤ g ∧ g < w.heap.size := by
  have hlt := (List.getElem?_eq_some_iff.1 ht).1
  rcases h.2 with ⟨e, _⟩ | ⟨g', cap', cur, e, hb, hg, hnc, hcm, hcs, htk⟩
  · cases e
  · cases e
    rw [← htk] at ht
    have h1 : t < n * 2 := by rw [h.1] at hlt; exact hlt
    rw [List.getElem?_take_of_lt h1] at ht
    refine ⟨?_, by simp [World.frozen?, hg], hb, (Array.getElem?_eq_some_iff.1 hg).1⟩
    simp only [World.cell?, hg]
    rw [← Array.getElem?_toList]
    exact ht
theorem rowc_set {w : World} {B n cap g t : Nat} {xs : List Value} (u : Value) (h : w.ownsRow B 38 2 (.slice (some ⟨g, 0, none⟩) n cap) n xs) : (w.setCell ⟨g, t, none⟩ u).ownsRow B 38 2 (.slice (some ⟨g, 0, none⟩) n cap) n (xs.set t u) := by
  refine ⟨by rw [List.length_set]; exact h.1, ?_⟩
  rcases h.2 with ⟨e, _⟩ | ⟨g', cap', cur, e, hb, hg, hnc, hcm, hcs, htk⟩
  · cases e
  · cases e
    refine .inr ⟨g, cap, cur.setIfInBounds t u, rfl, hb, ?_, hnc, hcm, by simpa using hcs, ?_⟩
    · simp [World.setCell, Array.getElem?_modify, hg]
    · rw [Array.toList_setIfInBounds, List.take_set, htk]

theorem cells_zz (w : World) : ∀ j u, (chCells [((⟨#[]⟩ : ByteArray), (0 : Int)), (⟨#[]⟩, 0)])[j]? = some u → (w.alloc (.cells #[.string ⟨#[]⟩, .int .u64 0, .string ⟨#[]⟩, .int .u64 0] 38)).cell? ((⟨w.heap.size, 0, none⟩ : Addr).add j) = some u := by
  intro j u hj
  have h : (w.alloc (.cells #[.string ⟨#[]⟩, .int .u64 0, .string ⟨#[]⟩, .int .u64 0] 38)).heap[w.heap.size]? = some (.cells #[.string ⟨#[]⟩, .int .u64 0, .string ⟨#[]⟩, .int .u64 0] 38) := World.alloc_heap_new w _
  rw [Addr.add_lit, Nat.zero_add]
  simp only [World.cell?, h]
  rw [← hj]
  simp only [Option.isSome_none, Bool.false_eq_true, if_false]
  rw [← Array.getElem?_toList]
  rfl

set_option maxRecDepth 100000 in
set_option maxHeartbeats 4000000 in
theorem lunder_any (w : World) (r d j b : Nat) (M : DataW Value) (rs : List (List UInt8)) (g : List UInt8 → Int) (n sz : Nat) (cut : Bool) (FJ F : Nat → Prop) (h : RfAt w r d j b M rs g n sz cut FJ F) (hn : n ≤ 1000) (a : Option Addr) (c : Nat) (L : List Ch) (hl : Chs w a n L) (hL : AllR g n L) (hs : ∀ x ∈ L, x.1.size ≤ 1000) (p : ByteArray) (hp : p.size ≤ 1000) :
    Calls Tryz.prog 40 #[.pointer (some ⟨r, 0, none⟩), .agg #[.slice a n c], .string p] w fun e w' => e = .returned (.bool true) ∧ Below w.heap.size w w' := by
  have hll := hl.1
  obtain ⟨i0, hi, hz0, hz1, hz2⟩ := info_parts infoRef
  have HG : Hid (RfAt w r d j b M rs g n sz cut FJ F ∧ Chs w a n L ∧ AllR g n L ∧ ∀ x ∈ L, x.1.size ≤ 1000) := ⟨h, hl, hL, hs⟩
  clear h hL hs
  go_enter Tryz.func40, Tryz.ntmps40
  go_wp2
  have HB0 : Hid (Below w.heap.size w (w.alloc (.cells #[.slice a n c] 32))) := (Below.refl _ w).alloc (Nat.le_refl _) _
  go_loopw [7, 16] (fun v q wr => ∃ (k : Nat) (ad : Option Addr) (u cp : Nat), k ≤ n ∧ q = .int .i64 (k : Int) ∧ v = .slice ad u cp ∧ u ≤ k ∧ Hid (u = (underR p (L.take k)).length ∧ wr.ownsRow w.heap.size 38 2 (.slice ad u cp) u (chCells (underR p (L.take k))) ∧ Below w.heap.size w wr)) (fun _ q _ => n - (intOf q).toNat)
  case atStart => exact ⟨0, none, 0, 0, Nat.zero_le _, rfl, rfl, Nat.zero_le _, by simp [underR], World.ownsRow_nil _ _ _ _, HB0.out⟩
  case round =>
    obtain ⟨k, ad, u, cp, hk, rfl, rfl, huk, H⟩ := hrel
    by_cases hlt : k < n
    · obtain ⟨x, hx⟩ : ∃ x, L[k]? = some x := ⟨_, List.getElem?_eq_getElem (by omega)⟩
      obtain ⟨b1, o1, rfl, hc1⟩ := hl.2 (by omega)
      obtain ⟨t1, t2⟩ := hc1 k x hx
      obtain ⟨hu, hrow, hB⟩ := H.out
      have q1 := (hB.cell (p := ⟨b1, o1 + k * 2, none⟩) (World.block_lt_of_cell? w _ t1)).trans t1
      have q2 := (hB.cell (p := ⟨b1, o1 + k * 2 + 1, none⟩) (World.block_lt_of_cell? w _ t2)).trans t2
      have i2 : (k : Int) < (n : Int) := by omega
      have i3 : ¬ n ≤ k := by omega
      have hxs := HG.out.2.2.2 x (List.mem_of_getElem? hx)
      have hin := fun W => In_any x.1 p W (by omega) (by omega)
      have HU : Hid (underR p (L.take (k + 1)) = underR p (L.take k) ++ (if inP (bs x.1) (bs p) = true then [x] else [])) := by
        show _ = _
        unfold underR
        rw [List.take_add_one, hx, Option.toList_some, List.filter_append]
        congr 1
        by_cases e : inP (bs x.1) (bs p) = true <;> simp [e]
      have hmeas : n - (intOf (Value.int .i64 ((k : Int) + 1))).toNat < n - (intOf (Value.int .i64 (k : Int))).toNat := by simp [intOf]; omega
      have HM : Hid (n - (intOf (Value.int .i64 ((k : Int) + 1))).toNat < n - (intOf (Value.int .i64 (k : Int))).toNat) := hmeas
      clear hc1 t1 t2 hx hmeas
      obtain ⟨nm, iv⟩ := x
      simp only at q1 q2 hxs hin HU
      have hBa : Below wr.heap.size wr (wr.alloc (.cells #[.string nm, .int .u64 iv] 38)) := (Below.refl _ wr).alloc (Nat.le_refl _) _
      have d0 : (wr.alloc (.cells #[.string nm, .int .u64 iv] 38)).cell? ⟨wr.heap.size, 0, none⟩ = some (.string nm) := cells_two_new wr (nm, iv) 0 _ rfl
      have d1 : (wr.alloc (.cells #[.string nm, .int .u64 iv] 38)).cell? ⟨wr.heap.size, 1, none⟩ = some (.int .u64 iv) := cells_two_new wr (nm, iv) 1 _ rfl
      have HD : Hid ((wr.alloc (.cells #[.string nm, .int .u64 iv] 38)).cell? ⟨wr.heap.size, 0, none⟩ = some (.string nm) ∧ (wr.alloc (.cells #[.string nm, .int .u64 iv] 38)).cell? ⟨wr.heap.size, 1, none⟩ = some (.int .u64 iv) ∧ Below w.heap.size w (wr.alloc (.cells #[.string nm, .int .u64 iv] 38)) ∧ (wr.alloc (.cells #[.string nm, .int .u64 iv] 38)).ownsRow w.heap.size 38 2 (.slice ad u cp) u (chCells (underR p (L.take k))) ∧ u = (underR p (L.take k)).length) := ⟨d0, d1, hB.trans (hBa.mono hB.size), hrow.alloc _, hu⟩
      clear hBa hB hrow hu H
      cases hb : inP (bs nm) (bs p) with
      | false =>
        rw [hb] at hin HU
        simp only [Bool.false_eq_true, if_false, List.append_nil] at HU
        go_wp2_with (go_at_call 67; refine (hin _).mono ?_; clear hin; rintro e w1 ⟨rfl, hB1⟩; have HB1 : Hid (Below (wr.alloc (.cells #[.string nm, .int .u64 iv] 38)).heap.size (wr.alloc (.cells #[.string nm, .int .u64 iv] 38)) w1) := hB1; clear hB1)
        obtain ⟨_, _, h3, h4, h5⟩ := HD.out
        refine ⟨⟨k + 1, ad, u, cp, by omega, by simp, rfl, by omega, by rw [HU.out]; exact h5, ?_, h3.trans (HB1.out.mono h3.size)⟩, HM.out⟩
        rw [HU.out]
        exact row_movedC h4 (fun g hg => HB1.out.block g (row_blockC h4 g hg).2)
      | true =>
        rw [hb] at hin HU
        simp only [if_true] at HU
        go_wp2_with first
          | (go_at_call 67; refine (hin _).mono ?_; clear hin; rintro e w1 ⟨rfl, hB1⟩; have e0 := (hB1.cell (p := ⟨wr.heap.size, 0, none⟩) (by simp)).trans HD.out.1; have e1 := (hB1.cell (p := ⟨wr.heap.size, 1, none⟩) (by simp)).trans HD.out.2.1; have hrow1 : w1.ownsRow w.heap.size 38 2 (.slice ad u cp) u (chCells (underR p (L.take k))) := row_movedC HD.out.2.2.2.1 (fun g hg => hB1.block g (row_blockC HD.out.2.2.2.1 g hg).2); have hb1 : Below w.heap.size w w1 := HD.out.2.2.1.trans (hB1.mono HD.out.2.2.1.size); have HB1 : Hid (Below w.heap.size w w1 ∧ w1.ownsRow w.heap.size 38 2 (.slice ad u cp) u (chCells (underR p (L.take k)))) := ⟨hb1, hrow1⟩; have hbs1 := hb1.size; clear hB1 hb1)
          | (at_builtin; refine wpList_append_own_at _ rfl _ _ 30 rfl w.heap.size 38 i0 _ 2 24 Tryz.underlying30 hi hz0 hz1 hz2 rfl (by decide) _ _ _ rfl (hrow1.alloc _) ⟨w1.heap.size, 0, none⟩ 1 1 (chCells [(nm, iv)]) rfl rfl (cells_two_new w1 (nm, iv)) (chCells_one _) (by unfold maxLen; omega) (by omega) (by simp; omega) ?_; intro v' w5 hown5 hgr5 _ _; obtain ⟨ad5, cp5, hv5, _⟩ := row_shapeC hown5; subst hv5; have HF : Hid (w5.ownsRow w.heap.size 38 2 (.slice ad5 (u + 1) cp5) (u + 1) (chCells (underR p (L.take k)) ++ chCells [(nm, iv)]) ∧ Below w.heap.size w w5) := ⟨hown5, (HB1.out.1.alloc HB1.out.1.size _).trans (below_grC (HB1.out.2.alloc _) (by simp; omega) hgr5)⟩; clear hown5 hgr5)
        refine ⟨⟨k + 1, ad5, u + 1, cp5, by omega, by simp, rfl, by omega, ?_, ?_, HF.out.2⟩, HM.out⟩
        · rw [HU.out, List.length_append, ← HD.out.2.2.2.2]; rfl
        · rw [HU.out, chCells_append]; exact HF.out.1
    · obtain rfl : k = n := by omega
      have i2 : ¬ (k : Int) < (k : Int) := by omega
      obtain ⟨hu, hrow, hB⟩ := H.out
      rw [List.take_of_length_le (by omega)] at hu hrow
      have HR : Hid (u = (underR p L).length ∧ wr.ownsRow w.heap.size 38 2 (.slice ad u cp) u (chCells (underR p L)) ∧ Below w.heap.size w wr) := ⟨hu, hrow, hB⟩
      clear hu hrow hB H HB0
      go_wp2_with fail
      go_loopw [10] (fun q W => ∃ t : Nat, t ≤ 2 ∧ q = .int .i64 (t : Int) ∧ Hid (W.ownsRow w.heap.size 38 2 (.slice ad u cp) u (chCells (underR p L)) ∧ Below w.heap.size w W)) (fun q _ => 2 - (intOf q).toNat)
      case atStart => exact ⟨0, by omega, rfl, HR.out.2⟩
      case round =>
        obtain ⟨t, ht, rfl, H⟩ := hrel
        by_cases ht2 : t < 2
        · have j1 : (t : Int) < 2 := by omega
          have hun := under_any wr r d j b M rs g k sz cut FJ F (HG.out.1.below H.out.2) (by omega) L HG.out.2.2.1 HG.out.2.2.2 p hp
          rw [← HR.out.1] at hun
          have HM2 : Hid (2 - (intOf (Value.int .i64 ((t : Int) + 1))).toNat < 2 - (intOf (Value.int .i64 (t : Int))).toNat) := (by simp [intOf]; omega : 2 - (intOf (Value.int .i64 ((t : Int) + 1))).toNat < 2 - (intOf (Value.int .i64 (t : Int))).toNat)
          go_wp2_with (go_at_call 68; refine hun.mono ?_; clear hun; rintro e w1 ⟨gd, gc, rfl, ho1, hB1⟩; have H1 : Hid (w1.ownsRow wr.heap.size 38 2 (.slice gd u gc) u (chCells (underR p L)) ∧ w1.ownsRow w.heap.size 38 2 (.slice ad u cp) u (chCells (underR p L)) ∧ Below w.heap.size w w1 ∧ (∀ g, (Value.slice ad u cp).ownBlock = some g → g < wr.heap.size) ∧ wr.heap.size ≤ w1.heap.size) := ⟨ho1, row_movedC H.out.1 (fun g hg => hB1.block g (row_blockC H.out.1 g hg).2), H.out.2.trans (hB1.mono H.out.2.size), fun g hg => (row_blockC H.out.1 g hg).2, hB1.size⟩; clear ho1 hB1)
          obtain ⟨B0, hB0⟩ : ∃ B0, B0 = wr.heap.size := ⟨_, rfl⟩
          rw [← hB0] at H1
          have HBS : Hid (w.heap.size ≤ B0) := (by rw [hB0]; exact H.out.2.size : w.heap.size ≤ B0)
          clear hB0 H
          go_loopw [43] (fun q W => ∃ (i : Nat) (xs : List Value), i ≤ u ∧ q = .int .i64 (i : Int) ∧ Hid (W.ownsRow B0 38 2 (.slice gd u gc) u xs ∧ (∀ (j : Nat) x, i ≤ j → (underR p L)[j]? = some x → xs[j * 2]? = some (.string x.1) ∧ xs[j * 2 + 1]? = some (.int .u64 x.2)) ∧ W.ownsRow w.heap.size 38 2 (.slice ad u cp) u (chCells (underR p L)) ∧ Below w.heap.size w W ∧ B0 ≤ W.heap.size)) (fun q _ => u - (intOf q).toNat)
          case atStart => exact ⟨0, _, Nat.zero_le _, rfl, H1.out.1, fun j x _ hx => chCells_get _ j x hx, H1.out.2.1, H1.out.2.2.1, H1.out.2.2.2.2⟩
          case round =>
            obtain ⟨i, xs, hiu, rfl, H⟩ := hrel
            by_cases hi2 : i < u
            · obtain ⟨y, hy⟩ : ∃ y, (underR p L)[i]? = some y := ⟨_, List.getElem?_eq_getElem (by rw [← HR.out.1]; exact hi2)⟩
              obtain ⟨h1, h2, h3, h4, h9⟩ := H.out
              obtain ⟨x1, x2⟩ := h2 i y (Nat.le_refl _) hy
              obtain ⟨y1, y2⟩ := chCells_get _ i y hy
              obtain ⟨gb, rfl⟩ : ∃ gb, gd = some ⟨gb, 0, none⟩ := by
                rcases h1.2 with ⟨_, e⟩ | ⟨g', cap', cur, e, _⟩
                · omega
                · exact ⟨g', (Value.slice.inj e).1⟩
              obtain ⟨lb, rfl⟩ : ∃ lb, ad = some ⟨lb, 0, none⟩ := by
                rcases h3.2 with ⟨_, e⟩ | ⟨g', cap', cur, e, _⟩
                · omega
                · exact ⟨g', (Value.slice.inj e).1⟩
              obtain ⟨c1, f1, hb1, hb2⟩ := rowc_cell h1 x1
              obtain ⟨c2, f2, _, _⟩ := rowc_cell h1 x2
              have c3 := (rowc_cell h3 y1).1
              have c4 := (rowc_cell h3 y2).1
              have hlb := H1.out.2.2.2.1 lb rfl
              have hne : lb ≠ gb := by omega
              have j2 : (i : Int) < (u : Int) := by omega
              have j3 : ¬ u ≤ i := by omega
              obtain ⟨nm, iv⟩ := y
              simp only at c1 c2 c3 c4 x1 x2
              have HNX : Hid (∃ xs', ((wr.setCell ⟨gb, i * 2, none⟩ (.string ⟨#[]⟩)).setCell ⟨gb, i * 2 + 1, none⟩ (.int .u64 0)).ownsRow B0 38 2 (.slice (some ⟨gb, 0, none⟩) u gc) u xs' ∧ (∀ (j : Nat) x, i + 1 ≤ j → (underR p L)[j]? = some x → xs'[j * 2]? = some (.string x.1) ∧ xs'[j * 2 + 1]? = some (.int .u64 x.2)) ∧ ((wr.setCell ⟨gb, i * 2, none⟩ (.string ⟨#[]⟩)).setCell ⟨gb, i * 2 + 1, none⟩ (.int .u64 0)).ownsRow w.heap.size 38 2 (.slice (some ⟨lb, 0, none⟩) u cp) u (chCells (underR p L)) ∧ Below w.heap.size w ((wr.setCell ⟨gb, i * 2, none⟩ (.string ⟨#[]⟩)).setCell ⟨gb, i * 2 + 1, none⟩ (.int .u64 0))) := by
                have hT : Turn (fun z => z = gb) wr ((wr.setCell ⟨gb, i * 2, none⟩ (.string ⟨#[]⟩)).setCell ⟨gb, i * 2 + 1, none⟩ (.int .u64 0)) := (turn_setCell wr gb (i * 2) _).trans (turn_setCell _ gb (i * 2 + 1) _) (fun _ _ e => e)
                have hbs := HBS.out
                refine ⟨_, rowc_set _ (rowc_set _ h1), fun j x hj hx => ?_, row_movedC h3 (fun g hg => hT.block g (row_blockC h3 g hg).2 (fun e => hne ((Option.some.inj hg).trans e))), h4.trans (hT.below h4.size (fun z hz => by omega))⟩
                obtain ⟨z1, z2⟩ := h2 j x (by omega) hx
                rw [List.getElem?_set_ne (by omega), List.getElem?_set_ne (by omega), List.getElem?_set_ne (by omega), List.getElem?_set_ne (by omega)]
                exact ⟨z1, z2⟩
              have HM3 : Hid (u - (intOf (Value.int .i64 ((i : Int) + 1))).toNat < u - (intOf (Value.int .i64 (i : Int))).toNat) := (by simp [intOf]; omega : u - (intOf (Value.int .i64 ((i : Int) + 1))).toNat < u - (intOf (Value.int .i64 (i : Int))).toNat)
              clear h1 h2 h3 h4 x1 x2 y1 y2 hy H hb1 hb2
              go_wp2_with fail
              go_region
              go_wp2
              obtain ⟨xs', r1, r2, r3, r4⟩ := HNX.out
              exact ⟨⟨i + 1, xs', by omega, by simp, r1, r2, r3, r4.trans ⟨rfl, rfl, rfl, Nat.le_refl _, fun _ _ => rfl⟩, by show B0 ≤ ((wr.setCell _ _).setCell _ _).heap.size; rw [World.size_setCell, World.size_setCell]; exact h9⟩, HM3.out⟩
            · obtain rfl : i = u := by omega
              have j2 : ¬ (i : Int) < (i : Int) := by omega
              obtain ⟨h1, _, h3, h4, h9⟩ := H.out
              have HX : Hid (wr.ownsRow w.heap.size 38 2 (.slice ad i cp) i (chCells (underR p L)) ∧ Below w.heap.size w wr ∧ wr.ownsRow B0 38 2 (.slice gd i gc) i xs ∧ B0 ≤ wr.heap.size) := ⟨h3, h4, h1, h9⟩
              have hB0s := HX.out.2.2.2
              have HN : Hid _ := cells_zz wr
              clear h3 h4 H
              go_wp2_with (at_builtin; refine wpList_append_own_at _ rfl _ _ 30 rfl B0 38 i0 _ 2 24 Tryz.underlying30 hi hz0 hz1 hz2 rfl (by decide) _ _ _ rfl (h1.alloc _) ⟨wr.heap.size, 0, none⟩ 2 2 (chCells [(⟨#[]⟩, 0), (⟨#[]⟩, 0)]) rfl rfl HN.out (fun u hu => chCells_one _ u hu) (by unfold maxLen; omega) (by omega) (by simp; omega) ?_; intro v' w5 hown5 hgr5 _ _; obtain ⟨ad5, cp5, hv5, _⟩ := row_shapeC hown5; subst hv5; have hb5 := below_grC (h1.alloc _) (by simp; omega) hgr5; have HF : Hid (w5.ownsRow w.heap.size 38 2 (.slice ad i cp) i (chCells (underR p L)) ∧ Below w.heap.size w w5) := ⟨row_movedC (HX.out.1.alloc _) (fun g hg => hb5.block g (H1.out.2.2.2.1 g hg)), (HX.out.2.1.alloc HX.out.2.1.size _).trans (hb5.mono HBS.out)⟩; clear hown5 hgr5 hb5)
              exact ⟨⟨t + 1, by omega, by simp, HF.out⟩, HM2.out⟩
        · obtain rfl : t = 2 := by omega
          have HF : Hid (Below w.heap.size w wr) := H.out.2
          clear H
          go_wp2
          go_ret
          exact ⟨rfl, HF.out⟩
end Go.Proofs.YtiafhbpklddlnaaGreatDoor

/- What stands while the law's `same` goes through all refs: the count in a box, all else as it was. -/
namespace Go.Proofs.YtiafhbpklddlnaaGreatDoor
open Go.RowKit Go.Shelf Go.Maps

attribute [local go_sem] Oper.semAt_some

/-- the count in box c, all else as in X0 -/
def NumR (c : Nat) (X0 : World) (pre : List Ch) (f : Nat → Prop) (W : World) : Prop := Boxed W c 3 (.int .i64 (pre.length : Int)) ∧ Turn (fun k => k = c) X0 W ∧ ∀ k, f k ↔ k < X0.heap.size
theorem numR_apart {c : Nat} {X0 : World} (hc : c < X0.heap.size) : Apart (NumR c X0) :=
  ⟨fun _ _ _ _ ⟨h1, h2, h3⟩ ht => ⟨(ht.block c h1.lt (fun h => h ((h3 c).2 hc))).trans h1, h2.trans ht (fun k hk e => absurd ((h3 k).2 hk) e), h3⟩, fun _ _ _ ⟨_, h2, h3⟩ k hk => Nat.lt_of_lt_of_le ((h3 k).1 hk) h2.size⟩
/-- all as in X0 -/
def AsB (X0 : World) (_ : List Ch) (f : Nat → Prop) (W : World) : Prop := Below X0.heap.size X0 W ∧ ∀ k, f k ↔ k < X0.heap.size
theorem asB_apart (X0 : World) : Apart (AsB X0) :=
  ⟨fun _ _ _ _ ⟨h1, h3⟩ ht => ⟨h1.trans (ht.below h1.size (fun k hk => Nat.le_of_not_lt (fun e => hk ((h3 k).2 e)))), h3⟩, fun _ _ _ ⟨h2, h3⟩ k hk => Nat.lt_of_lt_of_le ((h3 k).1 hk) h2.size⟩
/-- left by c0, all as in X0 -/
def LeftB (c0 : Code) (X0 : World) (c : Code) (pre : List Ch) (f : Nat → Prop) (W : World) : Prop := c = c0 ∧ AsB X0 pre f W
theorem leftB_apart (c0 : Code) (X0 : World) (c : Code) : Apart (LeftB c0 X0 c) :=
  ⟨fun s f X Y ⟨h1, h2⟩ ht => ⟨h1, (asB_apart X0).1 s f X Y h2 ht⟩, fun s f X ⟨_, h2⟩ k hk => (asB_apart X0).2 s f X h2 k hk⟩

def dfsR (Ds : List Nat) : List Deferred := Ds.map fun D => { target := .collected D, args := #[] }
theorem below_putR {W : World} {B D : Nat} (o : Obj) (h : B ≤ D) : Below B W (W.putObj D o) := ⟨rfl, rfl, rfl, by simp, fun k hk => World.putObj_heap_other (by omega)⟩
theorem bool_ret_dsR {n k base p : Nat} {f : Func} {u : Value} {tmps : Array Value} {P : Ending → World → Prop} (hf : f.results = #[ResultVar.cell k 4]) (ha : tmps[k]?.getD undef = .pointer (some ⟨p, 0, none⟩)) (hpb : p < base) :
    ∀ (Ds : List Nat) (W : World), Boxed W p 4 u → Ds.Nodup → (∀ D ∈ Ds, base ≤ D ∧ W.heap[D]? = some (.deferred (some []))) → (∀ W', Below base W W' → P (.returned u) W') →
    bodyPostM Fence.wide n Tryz.prog f P Exit.ret { tmps := tmps, defers := dfsR Ds } W
  | [], W, hb, _, _, hP => by
    have c0 := hb.cell
    exact ⟨u, by simp [results, hf, go_sem, ha, c0], hP W (Below.refl _ _)⟩
  | D :: r, W, hb, hn, hD, hP => by
    obtain ⟨hD0, hK⟩ := hD D (by simp)
    have hB : Below base W (W.putObj D (.deferred none)) := below_putR _ hD0
    have ih := bool_ret_dsR (n := n) (P := P) hf ha hpb r (W.putObj D (.deferred none)) ((hB.block p hpb).trans hb) (List.nodup_cons.1 hn).2 (fun E hE => ⟨(hD E (by simp [hE])).1, by
      rw [World.putObj_heap_other (fun e => (List.nodup_cons.1 hn).1 (by rw [← e]; exact hE))]; exact (hD E (by simp [hE])).2⟩) (fun W' h => hP W' (hB.trans h))
    refine ⟨by simp, .inl ⟨_, _, rfl, run_takeDeferred hK, ?_⟩⟩
    exact ih
/-- the entries that ranges have left -/
def DsAt (w4 W : World) (Ds : List Nat) : Prop := w4.heap.size ≤ W.heap.size ∧ Below w4.heap.size w4 W ∧ Ds.Nodup ∧ ∀ D ∈ Ds, w4.heap.size ≤ D ∧ W.heap[D]? = some (.deferred (some []))
theorem DsAt.new (w4 : World) : DsAt w4 w4 [] := ⟨Nat.le_refl _, Below.refl _ _, List.nodup_nil, fun D h => by cases h⟩
theorem DsAt.below {w4 W X : World} {Ds : List Nat} (h : DsAt w4 W Ds) (hB : Below W.heap.size W X) : DsAt w4 X Ds := by
  obtain ⟨h1, h2, h3, h4⟩ := h
  exact ⟨Nat.le_trans h1 hB.size, h2.trans (hB.mono h1), h3, fun E hE => ⟨(h4 E hE).1, (hB.block E ((Array.getElem?_eq_some_iff.1 (h4 E hE).2).1)).trans (h4 E hE).2⟩⟩
theorem DsAt.push {w4 W X : World} {D : Nat} {Ds : List Nat} (h : DsAt w4 W Ds) (hB : Below W.heap.size W X) (hD : W.heap.size ≤ D) (hK : X.heap[D]? = some (.deferred (some []))) : DsAt w4 X (D :: Ds) := by
  obtain ⟨h1, h2, h3, h4⟩ := h
  have hlt : ∀ E ∈ Ds, E < W.heap.size := fun E hE => (Array.getElem?_eq_some_iff.1 (h4 E hE).2).1
  refine ⟨Nat.le_trans h1 hB.size, h2.trans (hB.mono h1), List.nodup_cons.2 ⟨fun hm => ?_, h3⟩, fun E hE => ?_⟩
  · have := hlt D hm; omega
  · rcases List.mem_cons.1 hE with rfl | hE
    · exact ⟨by omega, hK⟩
    · exact ⟨(h4 E hE).1, (hB.block E (hlt E hE)).trans (h4 E hE).2⟩
/-- a slice of texts -/
def StrsR (w : World) (a : Option Addr) (n : Nat) (l : List ByteArray) : Prop := l.length = n ∧ (0 < n → ∃ b off, a = some ⟨b, off, none⟩ ∧ ∀ (j : Nat) x, l[j]? = some x → w.cell? ⟨b, off + j, none⟩ = some (.string x))
end Go.Proofs.YtiafhbpklddlnaaGreatDoor
