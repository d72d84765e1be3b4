import Derived.Test.YtiafhbpklddlnaaGreatDoorE36
import Derived.Test.YtiafhbpklddlnaaGreatDoorE31
/- The law's own `same`. -/
namespace Go.Proofs.YtiafhbpklddlnaaGreatDoor
open Go.RowKit Go.Shelf Go.Maps

attribute [local go_sem] Oper.semAt_some

set_option maxRecDepth 100000 in
theorem run_seq_nilR (W : World) (f : Nat) (p : Value) : (binOp .eql 85 (.func (.func f) #[] #[p]) .nilFunc).run Tryz.prog W = .ok (.bool false) W := by
  rfl

/-- the frame between two rounds of the loop that runs twice -/
abbrev lfS (u : Nat → Value) (p2 p3 p4 p6 f7 k : Value) (Ds : List Nat) : Act := { tmps := #[u 0, u 1, p2, p3, p4, u 5, p6, f7, k, u 9, u 10, u 11, u 12, u 13, u 14, u 15, u 16, u 17, u 18, u 19, u 20, u 21, u 22, u 23, u 24, u 25, u 26, u 27, u 28, u 29, u 30, u 31, u 32, u 33, u 34, u 35, u 36, u 37, u 38, u 39, u 40, u 41, u 42, u 43, u 44, u 45, u 46, u 47, u 48, u 49, u 50, u 51, u 52, u 53, u 54, u 55, u 56, u 57, u 58, u 59, u 60, u 61, u 62, u 63, u 64, u 65, u 66, u 67, u 68, u 69, u 70, u 71, u 72, u 73, u 74, u 75, u 76, u 77, u 78, u 79, u 80, u 81, u 82, u 83, u 84, u 85, u 86, u 87, u 88, u 89, u 90, u 91, u 92, u 93, u 94, u 95, u 96, u 97, u 98, u 99, u 100, u 101, u 102, u 103, u 104, u 105, u 106, u 107, u 108, u 109, u 110, u 111, u 112, u 113, u 114, u 115], defers := dfsR Ds }
theorem lfS_of {p2 p3 p4 p6 f7 k : Value} {Ds : List Nat} (a : Act) (h : a = lfS (fun i => a.tmps.getD i undef) p2 p3 p4 p6 f7 k Ds) : ∃ u, a = lfS u p2 p3 p4 p6 f7 k Ds := ⟨_, h⟩

set_option maxRecDepth 100000 in
set_option maxHeartbeats 8000000 in
theorem lsame_any (w : World) (r d j b : Nat) (M : DataW Value) (rs : List (List UInt8)) (g : List UInt8 → Int) (n sz : Nat) (cut : Bool) (FJ F : Nat → Prop) (h : RfAt w r d j b M rs g n sz cut FJ F) (hn : n ≤ 1000) (a : Option Addr) (c : Nat) (L : List Ch) (hl : Chs w a n L) (hL : AllR g n L) (hs : ∀ x ∈ L, x.1.size ≤ 1000) (na : Option Addr) (nn nc : Nat) (ns : List ByteArray) (hns : StrsR w na nn ns) (hnz : ∀ x ∈ ns, x.size ≤ 1000) (hnn : nn ≤ 1000000) :
    Calls Tryz.prog 15 #[.pointer (some ⟨r, 0, none⟩), .agg #[.slice a n c], .slice na nn nc] w fun e w' => e = .returned (.bool true) ∧ Below w.heap.size w w' := by
  have HG : Hid (RfAt w r d j b M rs g n sz cut FJ F ∧ Chs w a n L ∧ AllR g n L ∧ (∀ x ∈ L, x.1.size ≤ 1000) ∧ StrsR w na nn ns ∧ ∀ x ∈ ns, x.size ≤ 1000) := ⟨h, hl, hL, hs, hns, hnz⟩
  have hLl := hl.1
  have hln := fun W (hB : Below w.heap.size w W) => rlen_any W r d j b M rs g n sz cut FJ F (h.below hB)
  refine (callsIn_wide (n := 9)).1 ?_
  refine callsIn_of_wp_marks Tryz.func15 rfl trivial ?_ rfl
  simp only [Tryz.ntmps15, List.size_toArray, List.length_cons, List.length_nil, Nat.reduceAdd, Nat.reduceSub, Array.replicate_succ, Array.replicate_zero, List.push_toArray, List.append_toArray, List.nil_append, List.cons_append]
  refine wpIn_wide.2 ?_
  go_wp2_with (go_at_call 39; refine (all_any _ _).mono ?_; rintro e w8 ⟨rfl, h8⟩; subst h8)
  obtain ⟨wz, hwz⟩ : ∃ wz, wz = (((w.alloc (.cells #[.pointer (some ⟨r, 0, none⟩)] 26)).alloc (.cells #[.slice a n c] 32)).alloc (.cells #[.bool false] 4)).alloc (.cells #[.pointer (some ⟨r, 0, none⟩)] 26) := ⟨_, rfl⟩
  have hzs : wz.heap.size = w.heap.size + 4 := by rw [hwz]; simp
  have bR : Boxed wz w.heap.size 26 (.pointer (some ⟨r, 0, none⟩)) := by rw [hwz]; exact (((Boxed.new w _ _).alloc _).alloc _).alloc _
  have bW : Boxed wz (w.heap.size + 1) 32 (.slice a n c) := by
    have := ((Boxed.new (w.alloc (.cells #[.pointer (some ⟨r, 0, none⟩)] 26)) 32 (.slice a n c)).alloc (.cells #[.bool false] 4)).alloc (.cells #[.pointer (some ⟨r, 0, none⟩)] 26)
    rw [World.size_alloc] at this
    rw [hwz]; exact this
  have bF : Boxed wz (w.heap.size + 2) 4 (.bool false) := by
    have := (Boxed.new ((w.alloc (.cells #[.pointer (some ⟨r, 0, none⟩)] 26)).alloc (.cells #[.slice a n c] 32)) 4 (.bool false)).alloc (.cells #[.pointer (some ⟨r, 0, none⟩)] 26)
    rw [World.size_alloc, World.size_alloc] at this
    rw [hwz]; exact this
  have bB : Boxed wz (w.heap.size + 3) 26 (.pointer (some ⟨r, 0, none⟩)) := by
    have := Boxed.new (((w.alloc (.cells #[.pointer (some ⟨r, 0, none⟩)] 26)).alloc (.cells #[.slice a n c] 32)).alloc (.cells #[.bool false] 4)) 26 (.pointer (some ⟨r, 0, none⟩))
    rw [World.size_alloc, World.size_alloc, World.size_alloc] at this
    rw [hwz]; exact this
  have Bz : Below w.heap.size w wz := by rw [hwz]; exact ((((Below.refl _ w).alloc (Nat.le_refl _) _).alloc (by simp) _).alloc (by simp only [World.size_alloc]; omega) _).alloc (by simp only [World.size_alloc]; omega) _
  rw [← hwz]
  clear hwz
  have k1 := bR.cell
  have k2 := bW.cell
  have hlz := hln wz.drew (Bz.trans ⟨rfl, rfl, rfl, Nat.le_refl _, fun _ _ => rfl⟩)
  clear hln
  have hnf := fun W => run_seq_nilR W 63 (.pointer (some ⟨w.heap.size + 3, 0, none⟩))
  go_region_held3 (fun W => W.cell? ⟨w.heap.size, 0, none⟩ = some (.pointer (some ⟨r, 0, none⟩)) ∧ W.cell? ⟨w.heap.size + 1, 0, none⟩ = some (.slice a n c))
    (first
      | (go_split_ands; go_keep)
      | (exact ⟨k1, k2⟩))
    ((go_at_call 19; refine hlz.mono ?_; clear hlz; rintro e w9 ⟨rfl, h9⟩; subst h9))
  go_wp2
  obtain ⟨w4, hw4⟩ : ∃ w4, w4 = wz.drew := ⟨_, rfl⟩
  have B4 : Below w.heap.size w w4 := by rw [hw4]; exact Bz.trans ⟨rfl, rfl, rfl, Nat.le_refl _, fun _ _ => rfl⟩
  have h4s : w4.heap.size = w.heap.size + 4 := by rw [hw4]; exact hzs
  have b4R : Boxed w4 w.heap.size 26 (.pointer (some ⟨r, 0, none⟩)) := by rw [hw4]; exact bR
  have b4W : Boxed w4 (w.heap.size + 1) 32 (.slice a n c) := by rw [hw4]; exact bW
  have b4F : Boxed w4 (w.heap.size + 2) 4 (.bool false) := by rw [hw4]; exact bF
  have b4B : Boxed w4 (w.heap.size + 3) 26 (.pointer (some ⟨r, 0, none⟩)) := by rw [hw4]; exact bB
  rw [← hw4]
  clear hw4 bR bW bF bB Bz k1 k2 hnf h hl hL hs hns hnz hzs
  refine wp_loop (fun a' W => ∃ (k : Nat) (Ds : List Nat), k ≤ 2 ∧ (∃ u, a' = lfS u (.slice na nn nc) (.pointer (some ⟨w.heap.size, 0, none⟩)) (.pointer (some ⟨w.heap.size + 1, 0, none⟩)) (.pointer (some ⟨w.heap.size + 1 + 1, 0, none⟩)) (.func (.func 63) #[] #[.pointer (some ⟨w.heap.size + 1 + 1 + 1, 0, none⟩)]) (.int .i64 (k : Int)) Ds) ∧ DsAt w4 W Ds) (fun a' _ => 2 - (intOf (a'.tmps.getD 8 undef)).toNat) ?_ ?_
  · exact ⟨0, [], by omega, lfS_of _ rfl, DsAt.new _⟩
  · rintro a' W ⟨k, Ds, hk, ⟨u, rfl⟩, hDs⟩
    have HD : Hid (DsAt w4 W Ds) := hDs
    clear hDs
    by_cases hk2 : k < 2
    · have ik : (k : Int) < 2 := by omega
      go_wp2
      obtain ⟨X0, hX0⟩ : ∃ X0, X0 = W.alloc (.cells #[.int .i64 0] 3) := ⟨_, rfl⟩
      have hX0s : X0.heap.size = W.heap.size + 1 := by rw [hX0]; simp
      have bN0 : Boxed X0 W.heap.size 3 (.int .i64 0) := by rw [hX0]; exact Boxed.new _ _ _
      have B0 : Below W.heap.size W X0 := by rw [hX0]; exact (Below.refl _ W).alloc (Nat.le_refl _) _
      rw [← hX0]
      clear hX0
      have B04 : Below w4.heap.size w4 X0 := HD.out.2.1.trans (B0.mono HD.out.1)
      have h4W := HD.out.1
      have hR0 := HG.out.1.below (B4.trans (B04.mono B4.size))
      have HX : Hid (Below w4.heap.size w4 X0 ∧ Below W.heap.size W X0 ∧ RfAt X0 r d j b M rs g n sz cut FJ F) := ⟨B04, B0, hR0⟩
      refine (wpIn_wide (n := 9)).1 ?_
      refine range_owns (α := Ch) (w := X0) rfl (by omega) (gf := 63) (lb := #[.pointer (some ⟨w.heap.size + 3, 0, none⟩)]) rfl trivial (enters_of Tryz.func63 (by kernel_rfl) rfl)
        (all_tells X0 r d j b M rs g n sz cut FJ F hR0 (w.heap.size + 3) ((B04.cell (p := ⟨w.heap.size + 3, 0, none⟩) (by show w.heap.size + 3 < w4.heap.size; omega)).trans b4B.cell) (by omega) L HG.out.2.2.1 8 (by omega)) (fun _ => rfl) (fun k hk => hk.elim)
        (NumR W.heap.size X0) (fun _ _ _ _ => False) (numR_apart (by omega)) (fun _ => ⟨fun _ _ _ _ h _ => h, fun _ _ _ h => h.elim⟩) (fun _ _ _ _ _ h _ => h) (fun k => k < X0.heap.size) (fun _ _ h => h) ⟨bN0, Turn.refl _ _, fun _ => Iff.rfl⟩ ?actA ?assignA ?bodyA ?doneA ?stopA
      case assignA =>
        intro l x W K hK
        gi_wp2
        exact hK
      case bodyA =>
        rintro l pre x f Y hYs ⟨hbn, hT, hf⟩ hpx
        have hpl : pre.length < L.length := (List.getElem?_eq_some_iff.1 hpx).1
        have hR := HX.out.2.2.turn hT (fun k hk e => by have := HG.out.1.lt k hk; have := B4.size; omega)
        have B0Y : ∀ k, k < w4.heap.size → Y.heap[k]? = w4.heap[k]? := fun k hk => (hT.block k (by have := HX.out.1.size; omega) (by omega)).trans (HX.out.1.block k hk)
        have bYW : Boxed Y (w.heap.size + 1) 32 (.slice a n c) := (B0Y _ (by omega)).trans b4W
        have bYR : Boxed Y w.heap.size 26 (.pointer (some ⟨r, 0, none⟩)) := (B0Y _ (by omega)).trans b4R
        have hx := HG.out.2.2.1.mem (List.mem_of_getElem? hpx)
        have hxs := HG.out.2.2.2.1 x (List.mem_of_getElem? hpx)
        obtain ⟨b1, o1, rfl, hc1⟩ := HG.out.2.1.2 (by omega)
        obtain ⟨t1, t2⟩ := hc1 _ x hpx
        have cc : ∀ o v, w.cell? ⟨b1, o, none⟩ = some v → Y.cell? ⟨b1, o, none⟩ = some v := fun o v hv => by
          have hlt := World.block_lt_of_cell? w _ hv
          have hlt' : b1 < w.heap.size := hlt
          rw [World.cell?_of_block ((B0Y b1 (by omega)).trans (B4.block b1 hlt'))]
          exact hv
        have q1 := cc _ _ t1
        have q2 := cc _ _ t2
        have cN := hbn.cell
        have fN := hbn.frozen
        have cW := bYW.cell
        have cR := bYR.cell
        have hget := rget_any Y r d j b M rs g n sz cut FJ F hR x.1 (by unfold maxLen; omega)
        rw [hx.1, if_neg hx.2] at hget
        obtain ⟨P, hP⟩ : ∃ P, P = pre.length := ⟨_, rfl⟩
        have HP : Hid (P = pre.length) := hP
        rw [← hP] at cN hpl q1 q2
        have i1 : ¬ (n : Int) ≤ (P : Int) := by omega
        have i2 : (P : Int) < (n : Int) := by omega
        have i3 : ¬ n ≤ P := by omega
        have HE : Hid (Boxed Y W.heap.size 3 (.int .i64 (pre.length : Int)) ∧ Turn (fun k => k = W.heap.size) X0 Y ∧ ∀ k, f k ↔ k < X0.heap.size) := ⟨hbn, hT, hf⟩
        obtain ⟨nm, iv⟩ := x
        simp only at q1 q2 hget ⊢
        clear hbn hT hf hpx hx hc1 t1 t2 cc hP bYW bYR hR B0Y HX HD hR0 B04 B0 bN0
        gi_wp2_with (refine ⟨trivial, ?_⟩; gi_at_call 18; refine (callsIn_wide.2 hget).mono ?_; clear hget; rintro e W1 ⟨rfl, hh⟩; subst hh)
        obtain ⟨hbn, hT, hf⟩ := HE.out
        have hTs : Turn (fun k => k = W.heap.size) W1 (W1.setCell ⟨W.heap.size, 0, none⟩ (.int .i64 ((P : Int) + 1))) := turn_setCell W1 _ 0 _
        refine ⟨f, fun k hk => .inl hk, hTs.wide (fun k hk => (hf k).2 (by omega)), ?_, hT.trans hTs (fun _ _ e => e), hf⟩
        have e : ((pre ++ [(nm, iv)]).length : Int) = (P : Int) + 1 := by rw [HP.out]; simp
        rw [e]
        exact hbn.set _
      case doneA =>
        rintro D xs f Y hD hxs ⟨hbn, hT, hf⟩ hff hnD hT0 hK
        subst hxs
        have hR := HX.out.2.2.turn hT (fun k hk e => by have := HG.out.1.lt k hk; have := B4.size; omega)
        have B0Y : ∀ k, k < w4.heap.size → Y.heap[k]? = w4.heap[k]? := fun k hk => (hT.block k (by have := HX.out.1.size; omega) (by omega)).trans (HX.out.1.block k hk)
        have bYW : Boxed Y (w.heap.size + 1) 32 (.slice a n c) := (B0Y _ (by omega)).trans b4W
        have bYB : Boxed Y (w.heap.size + 3) 26 (.pointer (some ⟨r, 0, none⟩)) := (B0Y _ (by omega)).trans b4B
        have cN := hbn.cell
        rw [hLl] at cN
        have cW := bYW.cell
        have cB := bYB.cell
        have BWY : Below W.heap.size W Y := HX.out.2.1.trans (hT.below (by omega) (fun k hk => by omega))
        have HD2 : Hid (DsAt w4 Y (D :: Ds)) := HD.out.push BWY (by omega) hK
        have HR : Hid (RfAt Y r d j b M rs g n sz cut FJ F) := hR
        clear hbn hT hf hff hnD hT0 hK bYW bYB hR B0Y HX hR0 B04 B0 bN0 BWY HD
        gi_wp2
        go_wp2_with fail
        refine (wpIn_wide (n := 9)).1 ?_
        refine range_owns (α := Ch) (w := Y) rfl (by omega) (gf := 63) (lb := #[.pointer (some ⟨w.heap.size + 3, 0, none⟩)]) rfl trivial (enters_of Tryz.func63 (by kernel_rfl) rfl)
          (all_tells Y r d j b M rs g n sz cut FJ F HR.out (w.heap.size + 3) cB (by omega) xs HG.out.2.2.1 8 (by omega)) (fun _ => rfl) (fun k hk => hk.elim)
          (AsB Y) (LeftB (.exit 4) Y) (asB_apart Y) (leftB_apart _ Y) (fun _ _ _ _ _ h _ => h) (fun k => k < Y.heap.size) (fun _ _ h => h) ⟨Below.refl _ _, fun _ => Iff.rfl⟩ ?actB ?assignB ?bodyB ?doneB ?stopB
        case assignB =>
          intro l x W K hK
          gi_wp2
          exact hK
        case bodyB =>
          rintro l pre x f Z hZs hI hpx
          have HI : Hid (AsB Y pre f Z) := hI
          clear hI hpx
          gi_wp2
          exact ⟨f, fun k hk => .inl hk, Turn.refl _ _, rfl, HI.out⟩
        case doneB =>
          rintro D2 ys f Z hD2 hys ⟨hB, hf⟩ hff hnD hT0 hK
          have HE : Hid (DsAt w4 Z (D2 :: D :: Ds)) := HD2.out.push hB hD2 hK
          clear hB hf hff hnD hT0 hK HD2 HR hys
          gi_wp2
          go_wp2_with fail
          refine ⟨⟨k + 1, D2 :: D :: Ds, by omega, lfS_of _ (by simp only [lfS]; rfl), HE.out⟩, ?_⟩
          simp [intOf]; omega
        case stopB =>
          rintro D2 cd pre f Z hD2 ⟨rfl, hB, hf⟩ hff hnD hT0 hK
          have HE : Hid (DsAt w4 Z (D2 :: D :: Ds)) := HD2.out.push hB hD2 hK
          clear hB hf hff hnD hT0 hK HD2 HR
          gi_wp2
          go_wp2_with fail
          refine ⟨⟨k + 1, D2 :: D :: Ds, by omega, lfS_of _ (by simp only [lfS]; rfl), HE.out⟩, ?_⟩
          simp [intOf]; omega
      case stopA =>
        rintro D c pre f W hD hX
        exact hX.elim
    · obtain rfl : k = 2 := by omega
      have hns := HG.out.2.2.2.2.1
      have hnl := hns.1
      have H0 : Hid (DsAt w4 W Ds) := HD
      clear HD
      go_wp2_with fail
      go_loopw [79] (fun q wr => ∃ t : Nat, t ≤ nn ∧ q = .int .i64 (t : Int) ∧ Hid (DsAt w4 wr Ds)) (fun q _ => nn - (intOf q).toNat)
      case atStart => exact ⟨0, Nat.zero_le _, rfl, H0⟩
      case round =>
        clear H0
        obtain ⟨t, ht, rfl, H⟩ := hrel
        by_cases htn : t < nn
        · obtain ⟨x, hx⟩ : ∃ x, ns[t]? = some x := ⟨_, List.getElem?_eq_getElem (by omega)⟩
          have hxs := HG.out.2.2.2.2.2 x (List.mem_of_getElem? hx)
          obtain ⟨b1, o1, rfl, hc1⟩ := hns.2 (by omega)
          have B4r := H.out.2.1
          have Br : Below w.heap.size w wr := B4.trans (B4r.mono B4.size)
          have q1 := (Br.cell (p := ⟨b1, o1 + t, none⟩) (World.block_lt_of_cell? w _ (hc1 t x hx))).trans (hc1 t x hx)
          have cR := (B4r.cell (p := ⟨w.heap.size, 0, none⟩) (by show w.heap.size < w4.heap.size; omega)).trans b4R.cell
          have cW := (B4r.cell (p := ⟨w.heap.size + 1, 0, none⟩) (by show w.heap.size + 1 < w4.heap.size; omega)).trans b4W.cell
          have hR := HG.out.1.below Br
          have hC := HG.out.2.1.kept Br
          have hget := rget_any wr r d j b M rs g n sz cut FJ F hR x (by unfold maxLen; omega)
          have hdget := dget_any wr a n c L hC (by omega) x
          rw [HG.out.2.2.1.get] at hdget
          have HU : Hid (∀ W', Below wr.heap.size wr W' → W'.cell? ⟨w.heap.size, 0, none⟩ = some (.pointer (some ⟨r, 0, none⟩)) ∧ W'.cell? ⟨w.heap.size + 1, 0, none⟩ = some (.slice a n c) ∧ Calls Tryz.prog 40 #[.pointer (some ⟨r, 0, none⟩), .agg #[.slice a n c], .string x] W' fun e w' => e = .returned (.bool true) ∧ Below W'.heap.size W' w') := fun W' hB' => ⟨(hB'.cell (p := ⟨w.heap.size, 0, none⟩) (by show w.heap.size < wr.heap.size; have := B4r.size; omega)).trans cR, (hB'.cell (p := ⟨w.heap.size + 1, 0, none⟩) (by show w.heap.size + 1 < wr.heap.size; have := B4r.size; omega)).trans cW, lunder_any W' r d j b M rs g n sz cut FJ F (hR.below hB') hn a c L (hC.kept hB') HG.out.2.2.1 HG.out.2.2.2.1 x hxs⟩
          have i2 : (t : Int) < (nn : Int) := by omega
          have HM : Hid (nn - (intOf (Value.int .i64 ((t : Int) + 1))).toNat < nn - (intOf (Value.int .i64 (t : Int))).toNat) := (by simp [intOf]; omega : nn - (intOf (Value.int .i64 ((t : Int) + 1))).toNat < nn - (intOf (Value.int .i64 (t : Int))).toNat)
          clear hx hc1 B4r Br hR hC
          generalize hgx : g (bs x) = gx at hget hdget
          clear hgx
          by_cases h0 : gx = 0
          · subst h0
            rw [if_pos rfl] at hget
            go_wp2_with first
              | (go_at_call 18; refine hget.mono ?_; clear hget; rintro e W1 ⟨rfl, hh⟩; subst hh)
              | (go_at_call 30; refine hdget.mono ?_; clear hdget; rintro e W2 ⟨rfl, hB2⟩; obtain ⟨d1, d2, hun⟩ := HU.out W2 hB2; have HB2 : Hid (Below W1.heap.size W1 W2) := hB2; clear hB2)
              | (go_at_call 40; refine hun.mono ?_; clear hun; rintro e W3 ⟨rfl, hB3⟩; have HB3 : Hid (Below W2.heap.size W2 W3) := hB3; clear hB3)
            exact ⟨⟨t + 1, by omega, by simp, H.out.below (HB2.out.trans (HB3.out.mono HB2.out.size))⟩, HM.out⟩
          · rw [if_neg h0] at hget
            have h0' : (gx == 0) = false := beq_eq_false_iff_ne.2 h0
            have h0'' : (gx != 0) = true := bne_iff_ne.2 h0
            go_wp2_with first
              | (go_at_call 18; refine hget.mono ?_; clear hget; rintro e W1 ⟨rfl, hh⟩; subst hh)
              | (go_at_call 30; refine hdget.mono ?_; clear hdget; rintro e W2 ⟨rfl, hB2⟩; obtain ⟨d1, d2, hun⟩ := HU.out W2 hB2; have HB2 : Hid (Below W1.heap.size W1 W2) := hB2; clear hB2)
              | (go_at_call 40; refine hun.mono ?_; clear hun; rintro e W3 ⟨rfl, hB3⟩; have HB3 : Hid (Below W2.heap.size W2 W3) := hB3; clear hB3)
            exact ⟨⟨t + 1, by omega, by simp, H.out.below (HB2.out.trans (HB3.out.mono HB2.out.size))⟩, HM.out⟩
        · obtain rfl : t = nn := by omega
          have i2 : ¬ (t : Int) < (t : Int) := by omega
          have bF := (H.out.2.1.block _ (by omega)).trans b4F
          have bF' : Boxed wr (w.heap.size + 1 + 1) 4 (.bool false) := bF
          have cF := bF'.cell
          have fF := bF'.frozen
          go_wp2
          refine bool_ret_dsR (k := 6) (base := w4.heap.size) (p := w.heap.size + 1 + 1) rfl rfl (by omega) Ds _ (bF'.set _) H.out.2.2.1 (fun D hD => ⟨(H.out.2.2.2 D hD).1, ?_⟩) (fun W' h => ⟨rfl, ?_⟩)
          · rw [Below.heap_setCell _ _ _ _ (by show D ≠ w.heap.size + 1 + 1; have := (H.out.2.2.2 D hD).1; omega)]
            exact (H.out.2.2.2 D hD).2
          · exact ((B4.trans (H.out.2.1.mono B4.size)).setCell (p := ⟨w.heap.size + 1 + 1, 0, none⟩) (by show w.heap.size ≤ w.heap.size + 1 + 1; omega) _).trans (h.mono B4.size)
end Go.Proofs.YtiafhbpklddlnaaGreatDoor

/- A Set of whatever changes, on refs whose disk is not cut: one contract for all that it may answer. -/
namespace Go.Proofs.YtiafhbpklddlnaaGreatDoor
open Go.RowKit Go.Shelf Go.Maps

theorem encR_bound (l : List Ch) (h : ∀ x ∈ l, x.1.size ≤ 200) : (recB (encR l)).length ≤ l.length * 218 + 30 := by
  have h1 := chsB_len l h
  have h2 := (recB_pos (encR l)).2
  have h3 := short_len l.length
  have h4 : (encR l).length = (short l.length).length + (chsB l).length := by simp [encR]
  omega
theorem applyR_nil (q : (List UInt8 → Int) × Nat) : applyR q [] = q := rfl
theorem RfG.cnt {w : World} {r d : Nat} {g : List UInt8 → Int} {n : Nat} {rs : List (List UInt8)} {S : DG} {F G : Nat → Prop} (h : RfG w r d g n rs S F G) : CntR g n := by
  obtain ⟨j, b, M, FJ, hr⟩ := h.rf
  exact hr.cnt
/-- the records behind a Set -/
def recR (g : List UInt8 → Int) (n : Nat) (rs : List (List UInt8)) (l : List Ch) : List (List UInt8) := if chkR g n l = 0 ∧ newsR g l ≠ [] then rs ++ [encR (newsR g l)] else rs
/-- what lies behind a Set -/
structure SetG (w w' : World) (r d : Nat) (g g' : List UInt8 → Int) (n n' : Nat) (rs rs' : List (List UInt8)) (S S' : DG) (F G F' G' : Nat → Prop) (l : List Ch) (m : Nat) : Prop where
  tn : Turn (fun k => F k ∨ G k) w w'
  rf : RfG w' r d g' n' rs' S' F' G'
  nm : NamesR g' n'
  hF : ∀ k, F' k → F k ∨ w.heap.size ≤ k
  hG : ∀ k, G' k → G k ∨ w.heap.size ≤ k
  bad : chkR g n l ≠ 0 → g' = g ∧ n' = n
  good : chkR g n l = 0 → (g', n') = applyR (g, n) (newsR g l)
  len : (fileB rs').length ≤ (fileB rs).length + m * 218 + 30
  same : newsR g l = [] → S' = S
  recs : rs' = recR g n rs l
theorem rset_g (w : World) (r d : Nat) (g : List UInt8 → Int) (n : Nat) (rs : List (List UInt8)) (S : DG) (F G : Nat → Prop) (h : RfG w r d g n rs S F G) (hN : NamesR g n) (a : Option Addr) (m c : Nat) (l : List Ch) (hl : Chs w a m l) (hs : ShortR l) (hi : ∀ x ∈ l, 0 ≤ x.2 ∧ x.2 ≤ 18446744073709551615) (hm : m ≤ 1000) (hfit : (fileB rs).length ≤ 3000000) :
    Calls Tryz.prog 9 #[.pointer (some ⟨r, 0, none⟩), .slice a m c] w fun e w' => e = .returned (.int .i64 (chkR g n l)) ∧ ∃ g' n' rs' S' F' G', SetG w w' r d g g' n n' rs rs' S S' F G F' G' l m := by
  have hn := hN.2
  by_cases he : chkR g n l = 0
  · by_cases hnw : newsR g l = []
    · obtain ⟨j, b, M, FJ, hr⟩ := h.rf
      refine (rset_same w r d j b M rs g n _ false FJ F hr a m c l hl hs (by omega) (by omega) he hnw).mono ?_
      rintro e w' ⟨hee, hB⟩
      exact ⟨by rw [he]; exact hee, g, n, rs, S, F, G, Turn.of_below _ hB, h.below hB, hN, fun _ hk => .inl hk, fun _ hk => .inl hk, fun e => absurd he e, fun _ => by rw [hnw]; rfl, by omega, fun _ => rfl, by unfold recR; rw [if_neg (fun h => h.2 hnw)]⟩
    · have hsh : ∀ x ∈ newsR g l, x.1.size ≤ 200 := fun x hx => chkFrom_short g l _ _ he x (newsR_sub g l x hx)
      have hNl : (newsR g l).length ≤ m := by rw [← hl.1]; exact List.length_filter_le _ _
      have hrb := encR_bound (newsR g l) hsh
      have hb2 : (newsR g l).length * 218 ≤ m * 218 := Nat.mul_le_mul hNl (Nat.le_refl _)
      have hb3 : m * 218 ≤ 1000 * 218 := Nat.mul_le_mul hm (Nat.le_refl _)
      refine (rset_good w r d g n rs S F G h a m c l hl hs hi hm (by omega) he hnw (by omega)).mono ?_
      rintro e w' ⟨hee, hT, S', F', G', hR, hF', hG'⟩
      refine ⟨by rw [he]; exact hee, _, _, _, S', F', G', hT, hR, ?_, hF', hG', fun e => absurd he e, fun _ => rfl, ?_, fun e => absurd e hnw, by unfold recR; rw [if_pos ⟨he, hnw⟩]⟩
      · exact hN.set h.cnt (chkR_news he)
      · rw [fileB_snoc, List.length_append]; omega
  · obtain ⟨j, b, M, FJ, hr⟩ := h.rf
    refine (rset_bad w r d j b M rs g n _ false FJ F hr a m c l hl hs (by omega) (by omega) he).mono ?_
    rintro e w' ⟨hee, hB⟩
    exact ⟨hee, g, n, rs, S, F, G, Turn.of_below _ hB, h.below hB, hN, fun _ hk => .inl hk, fun _ hk => .inl hk, fun _ => ⟨rfl, rfl⟩, fun e => absurd e he, by omega, fun _ => rfl, by unfold recR; rw [if_neg (fun h => he h.1)]⟩
end Go.Proofs.YtiafhbpklddlnaaGreatDoor
