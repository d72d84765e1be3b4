import Derived.Test.YtdjodigimhgklaaGreatDoorMD20
import Derived.Deep.CutRange
import Derived.Test.YtdjodigimhgklaaGreatDoorMD19
import Derived.Test.YtdjodigimhgklaaGreatDoorMD18
import Derived.Test.YtdjodigimhgklaaGreatDoorMD10
import Derived.Test.YtdjodigimhgklaaGreatDoorMD05
/- The walk of form. -/
namespace Go.Proofs.YtdjodigimhgklaaGreatDoor
open Go.RowKit Go.Shelf Go.Maps

attribute [local go_sem] Oper.semAt_some

theorem VKeeps.boxV {B : Nat} {W W' : World} {g : Nat} {x y : Int} (h : VKeeps B W W') (hb : BoxV W g x y) (hg : g ≠ B) : BoxV W' g x y := h g _ _ hb (by decide) hg
theorem VOut.lt {w0 W : World} {B : Nat} {l : List UInt8} (h : VOut w0 B l W) : B < W.heap.size := by
  obtain ⟨v, hv, _⟩ := h.box
  exact hv.lt

set_option maxRecDepth 100000 in
set_option maxHeartbeats 4000000 in
theorem vform_any (w : World) (a : Option Addr) (n c : Nat) (l : List Pr) (h : Prs w a n l) (hok : PrOk l) (hn : n ≤ 1000000) :
    Calls Tryz.prog 73 #[.slice a n c] w fun e w' => ∃ ad cp, e = .returned (.slice ad (runB l).length cp) ∧ w'.ownsRow w.heap.size 5 1 (.slice ad (runB l).length cp) (runB l).length (cellsOf (runB l)) ∧ Below w.heap.size w w' := by
  have hmx : Tryz.prog.follows .mixedOrders = true := by kernel_rfl
  have hll := h.1
  have hs := short_len n
  have hp := putUint_any none 0 0 n [] w ⟨rfl, fun h => absurd h (by omega)⟩ (by omega) (by omega)
  simp only [Nat.zero_add, List.nil_append] at hp
  have HG : Hid (∀ (W : World) (v : Value) (m : Nat), W.ownsRow w.heap.size 5 1 v m (cellsOf (short n)) → m ≤ 10 → w.heap.size ≤ W.heap.size → Calls Tryz.prog 108 #[v, .int .i64 ((n : Int) * 16)] W fun e w' => ∃ ad cp, e = .returned (.slice ad m cp) ∧ w'.ownsRow w.heap.size 5 1 (.slice ad m cp) m (cellsOf (short n)) ∧ Below W.heap.size W w') := fun W v m ho hm hB => by
    have := vgrow_any W w.heap.size v m (n * 16) (short n) ho hB (by omega)
    rw [show ((n * 16 : Nat) : Int) = (n : Int) * 16 by omega] at this
    refine this.mono ?_
    rintro e w' ⟨v', rfl, ho', hB'⟩
    obtain ⟨ad, cp, rfl, _⟩ := vrow_shape ho'
    exact ⟨ad, cp, rfl, ho', hB'⟩
  have HS : Hid ((short n).length ≤ 10 ∧ headB l = short n ++ prBytes l) := ⟨hs, by unfold headB; rw [hll]⟩
  clear hs
  go_enter Tryz.func73, Tryz.ntmps73
  go_wp2_with first
    | (go_at_call 109; refine hp.mono ?_; clear hp; rintro e w1 ⟨g, c1, rfl, ho, hg⟩; have H1 : Hid (w1.ownsRow w.heap.size 5 1 (.slice (some ⟨g, 0, none⟩) (short n).length c1) (short n).length (cellsOf (short n)) ∧ Below w.heap.size w w1) := ⟨ho, vgrown_below hg⟩; clear ho hg)
    | (go_at_call 108; refine (HG.out w1 _ _ H1.out.1 HS.out.1 H1.out.2.size).mono ?_; clear HG; rintro e w2 ⟨ad, cp, rfl, ho2, hB2⟩; have H2 : Hid (w2.ownsRow w.heap.size 5 1 (.slice ad (short n).length cp) (short n).length (cellsOf (short n)) ∧ Below w.heap.size w w2) := ⟨ho2, H1.out.2.trans (hB2.mono H1.out.2.size)⟩; clear ho2 hB2 H1)
  have HO : Hid (VOut w w2.heap.size (short n ++ prBytes (l.take 0)) (w2.alloc (.cells #[.slice ad (short n).length cp] 33))) := by
    rw [List.take_zero]
    simp only [prBytes, List.append_nil]
    exact ⟨⟨_, Boxed.new w2 _ _, H2.out.1.alloc _⟩, H2.out.2.alloc H2.out.2.size _, H2.out.2.size⟩
  generalize w2.alloc (.cells #[.slice ad (short n).length cp] 33) = w3 at *
  generalize w2.heap.size = B at *
  go_loopw [18] (fun i wr => ∃ k : Nat, k ≤ n ∧ i = .int .i64 (k : Int) ∧ Hid (VOut w B (short n ++ prBytes (l.take k)) wr)) (fun i _ => n - (intOf i).toNat)
  case atStart => exact ⟨0, Nat.zero_le _, rfl, HO⟩
  case round =>
    clear H2 HO
    obtain ⟨k, hk, rfl, H⟩ := hrel
    by_cases hlt : k < n
    · obtain ⟨⟨x, y⟩, hx⟩ : ∃ x, l[k]? = some x := ⟨_, List.getElem?_eq_getElem (by rw [h.1]; exact hlt)⟩
      obtain ⟨b1, o1, rfl, hc1⟩ := h.2 (by omega)
      obtain ⟨t1, t2⟩ := hc1 k _ hx
      have q1 := (H.out.bel.cell (p := ⟨b1, o1 + k * 2, none⟩) (World.block_lt_of_cell? w _ t1)).trans t1
      have q2 := (H.out.bel.cell (p := ⟨b1, o1 + k * 2 + 1, none⟩) (World.block_lt_of_cell? w _ t2)).trans t2
      have i2 : (k : Int) < (n : Int) := by omega
      have hxy := hok _ (List.mem_of_getElem? hx)
      have hb0 : BoxV (wr.alloc (.cells #[.int .u64 (x : Int), .int .u64 (y : Int)] 39)) wr.heap.size x y := BoxV.new wr _ _
      have HE : Hid (VOut w B (short n ++ prBytes (l.take k)) (wr.alloc (.cells #[.int .u64 (x : Int), .int .u64 (y : Int)] 39)) ∧ BoxV (wr.alloc (.cells #[.int .u64 (x : Int), .int .u64 (y : Int)] 39)) wr.heap.size x y ∧ wr.heap.size ≠ B ∧ (short n ++ prBytes (l.take k)).length ≤ 20000000 ∧ short n ++ prBytes (l.take (k + 1)) = short n ++ prBytes (l.take k) ++ wide x ++ wide y) := by
        refine ⟨H.out.alloc _, hb0, by have := H.out.lt; omega, ?_, ?_⟩
        · rw [List.length_append, prBytes_len, List.length_take]
          have := HS.out.1
          omega
        · rw [take_getV hx, prBytes_app]
          simp only [prBytes, List.append_nil, List.append_assoc]
      simp only at q1 q2 hxy
      obtain ⟨hx1, hy1⟩ := hxy
      clear hc1 t1 t2 hx h H hb0
      generalize short n ++ prBytes (l.take k) = L at *
      obtain ⟨bp, hbp⟩ : ∃ bp, bp = wr.heap.size := ⟨_, rfl⟩
      go_wp2_with first
        | (go_at_call 110; refine (vput_any w B L x _ HE.out.1 hx1 (by have := HE.out.2.2.2.1; omega)).mono ?_; rintro e w4 ⟨rfl, hO4, hK4⟩; have H4 : Hid (VOut w B (L ++ wide x) w4 ∧ BoxV w4 wr.heap.size x y) := ⟨hO4, hK4.boxV HE.out.2.1 HE.out.2.2.1⟩; clear hO4 hK4; obtain ⟨c41, c42⟩ := H4.out.2.cell)
        | (go_at_call 110; refine (vput_any w B (L ++ wide x) y _ H4.out.1 hy1 (by have := HE.out.2.2.2.1; rw [List.length_append, vwide_len]; omega)).mono ?_; rintro e w5 ⟨rfl, hO5, hK5⟩; have H5 : Hid (VOut w B (L ++ wide x ++ wide y) w5) := hO5; clear hO5 hK5)
      go_roundw
      case rel => exact ⟨k + 1, by omega, by go_num, by rw [HE.out.2.2.2.2]; exact H5.out⟩
      case measure => simp [intOf]; omega
    · obtain rfl : k = n := by omega
      have HF : Hid (VOut w B (headB l) wr) := by
        have e := H.out
        rw [List.take_of_length_le (by rw [h.1]; exact Nat.le_refl _), ← HS.out.2] at e
        exact e
      have HN : Hid ((headB l).length ≤ 20000000) := by
        show _ ≤ _
        rw [HS.out.2, List.length_append, prBytes_len]
        have := HS.out.1
        omega
      clear H
      go_upto_region 9 with fail
      obtain ⟨v, hv, ho⟩ := HF.out.box
      obtain ⟨ad, cp, rfl, _⟩ := vrow_shape ho
      have HV : Hid (Boxed wr B 33 (.slice ad (headB l).length cp) ∧ Bytes wr ad (headB l).length (headB l) ∧ Below w.heap.size w wr) := ⟨hv, vrow_bytes ho, HF.out.bel⟩
      have cv := hv.cell
      have HR : Hid (runB l = headB l ++ wide (vhashN (headB l)) ∧ hashTo (headB l) (headB l).length = (vhashN (headB l) : Int) ∧ vhashN (headB l) < 18446744073709551616) := ⟨rfl, vhashN_int _ _ rfl, vhashN_lt _⟩
      clear hv ho HF h hok
      generalize vhashN (headB l) = vh at *
      generalize headB l = A at *
      generalize hN : A.length = N at *
      refine wp_region_G (S := SB 1000 (fun _ => True) (fun Y => Y.cell? ⟨B, 0, none⟩ = some (.slice ad N cp))) hmx ?_
      have hSB : SB 1000 (fun _ => True) (fun Y => Y.cell? ⟨B, 0, none⟩ = some (.slice ad N cp)) (Array.replicate 5 false) wr.drew := SB.on trivial cv
      refine wpAnyG_takeP (i := 0) (v := ?_) rfl (by kernel_rfl) (by kernel_rfl) (by kernel_rfl) (fun _ _ _ h => h) rfl (Or.inl ⟨by rfl, ?_⟩) (by assumption) ?_
      rotate_left
      · intro Y hY; have y0 := hY; go_simp; try with_reducible rfl
      intro hSB0
      try simp only [Act.put, List.getElem_toArray, List.getElem_cons_zero, List.setIfInBounds_toArray, List.set_cons_zero, List.set_cons_succ]
      refine wpAnyG_takeP (i := 1) (v := ?_) rfl (by kernel_rfl) (by kernel_rfl) (by kernel_rfl) (fun _ _ _ h => h) rfl (Or.inl ⟨by rfl, ?_⟩) (by assumption) ?_
      rotate_left
      · intro Y hY; have y0 := hY; go_simp; try with_reducible rfl
      intro hSB1
      try simp only [Act.put, List.getElem_toArray, List.getElem_cons_zero, List.getElem_cons_succ, List.setIfInBounds_toArray, List.set_cons_zero, List.set_cons_succ]
      refine wpAnyG_one (i := 2) (by kernel_rfl) rfl (fun K hK => ?_)
      have hBd : Below wr.heap.size wr wr.drew := ⟨rfl, rfl, rfl, Nat.le_refl _, fun _ _ => rfl⟩
      refine vstep_hash _ (by rfl) _ _ (by rfl) _ (by rfl) (fun v W => v = .int .u64 (vh : Int) ∧ W = wr.drew) ((hash_any ad N cp A wr.drew (vbytes_below HV.out.2.1 hBd) (by unfold maxLen; have := HN.out; omega)).mono (fun e w' h => ⟨_, h.1, by rw [HR.out.2.1], h.2⟩)) ?_
      rintro v w6 ⟨rfl, rfl⟩
      refine hK.out _ _ (SB.on trivial cv) (fun hSB2 => ?_)
      clear hK K
      try simp only [Act.put, List.getElem_toArray, List.getElem_cons_zero, List.getElem_cons_succ, List.setIfInBounds_toArray, List.set_cons_zero, List.set_cons_succ]
      refine wpAnyG_one (i := 3) (by kernel_rfl) rfl (fun K hK => ?_)
      refine vstep_putWord _ (by rfl) _ _ _ _ (by rfl) _ _ (by rfl) (by rfl) (fun v W => ∃ g c, v = .slice (some ⟨g, 0, none⟩) (N + 8) c ∧ W.ownsRow wr.heap.size 5 1 (.slice (some ⟨g, 0, none⟩) (N + 8) c) (N + 8) (cellsOf (A ++ wide vh)) ∧ Below wr.heap.size wr W) ((putWord_any ad N cp vh A wr.drew (vbytes_below HV.out.2.1 hBd) (by have := HN.out; omega) HR.out.2.2).mono (fun e w' ⟨g, c, h1, h2, h3⟩ => ⟨_, h1, g, c, rfl, h2, hBd.trans (vgrown_below h3)⟩)) ?_
      rintro v w7 ⟨g, c7, rfl, ho7, hB7⟩
      refine hK.out _ _ (SB.on trivial ((hB7.cell (World.block_lt_of_cell? wr _ cv)).trans cv)) (fun hSB3 => ?_)
      clear hK K
      try simp only [Act.put, List.getElem_toArray, List.getElem_cons_zero, List.getElem_cons_succ, List.setIfInBounds_toArray, List.set_cons_zero, List.set_cons_succ]
      refine wpAnyG_takeP (i := 4) (v := ?_) rfl (by kernel_rfl) (by kernel_rfl) (by kernel_rfl) (fun _ _ _ h => h) rfl (Or.inl ⟨by rfl, ?_⟩) (by assumption) ?_
      rotate_left
      · intro Y _; go_simp; try with_reducible rfl
      intro hSB4
      try simp only [Act.put, List.getElem_toArray, List.getElem_cons_zero, List.getElem_cons_succ, List.setIfInBounds_toArray, List.set_cons_zero, List.set_cons_succ]
      refine wpAnyG_done (by kernel_rfl) ?_ _
      clear hSB hSB0 hSB1 hSB2 hSB3 hSB4
      go_wp2
      go_ret
      have e : N + 8 = (runB l).length := by rw [HR.out.1, List.length_append, vwide_len, hN]
      rw [← e, HR.out.1]
      refine ⟨_, _, rfl, ?_, HV.out.2.2.trans (hB7.mono HV.out.2.2.size)⟩
      have hb := HV.out.2.2.size
      refine ⟨ho7.1, ho7.2.imp id ?_⟩
      rintro ⟨g', cap, cur, h1, h2, h3⟩
      exact ⟨g', cap, cur, h1, by omega, h3⟩
end Go.Proofs.YtdjodigimhgklaaGreatDoor

/- The law's pairs: two slices of the same pairs. -/
namespace Go.Proofs.YtdjodigimhgklaaGreatDoor
open Go.RowKit Go.Shelf Go.Maps

attribute [local go_sem] Oper.semAt_some

set_option maxRecDepth 100000 in
set_option maxHeartbeats 4000000 in
theorem ypairs_same (w : World) (a b : Option Addr) (n c c2 : Nat) (l : List Pr) (h1 : Prs w a n l) (h2 : Prs w b n l) (hn : n ≤ 1000000) :
    Calls Tryz.prog 15 #[.slice a n c, .slice b n c2] w fun e w' => e = .returned (.bool true) ∧ Below w.heap.size w w' := by
  have H : Hid (∀ Y, Below w.heap.size w Y → Prs Y a n l ∧ Prs Y b n l) := fun Y hY => ⟨h1.kept hY, h2.kept hY⟩
  have hl := h1.1
  clear h1 h2
  go_enter Tryz.func15, Tryz.ntmps15
  go_wp2_with fail
  have H0 : Hid (Below w.heap.size w w) := Below.refl _ w
  go_loopw [13] (fun v wr => ∃ (k : Nat), k ≤ n ∧ v = .int .i64 (k : Int) ∧ Hid (Below w.heap.size w wr)) (fun v _ => n - (intOf v).toNat)
  case atStart => exact ⟨0, Nat.zero_le _, rfl, H0⟩
  case round =>
    obtain ⟨k, hk, rfl, HB⟩ := hrel
    by_cases hlt : k < n
    · obtain ⟨⟨x, y⟩, hx⟩ : ∃ x, l[k]? = some x := ⟨_, List.getElem?_eq_getElem (by omega)⟩
      obtain ⟨p1, p2⟩ := H.out wr HB.out
      obtain ⟨b1, o1, rfl, hc1⟩ := p1.2 (by omega)
      obtain ⟨b2, o2, rfl, hc2⟩ := p2.2 (by omega)
      obtain ⟨q1, q2⟩ := hc1 _ _ hx
      obtain ⟨q3, q4⟩ := hc2 _ _ hx
      have i5 : (k : Int) < (n : Int) := by omega
      have hnv : ∀ w, (binOp .neq 39 (.agg #[.int .u64 (x : Int), .int .u64 (y : Int)]) (.agg #[.int .u64 (x : Int), .int .u64 (y : Int)])).run Tryz.prog w = .ok (.bool false) w := fun w => by
        rw [neV]; simp
      clear p1 p2 hc1 hc2 hx H0
      simp only at q1 q2 q3 q4
      go_wp2_with fail
      go_quiet (fail)
      have HD : Hid (Below w.heap.size w (wr.drewN nq)) := vbelow_drewN HB.out nq
      go_wp2_with fail
      go_roundw
      case rel => exact ⟨k + 1, by omega, by go_num, HD⟩
      case measure => simp [intOf]; omega
    · obtain rfl : k = n := by omega
      have i5 : ¬ (k : Int) < (k : Int) := by omega
      have HB2 : Hid (Below w.heap.size w wr) := HB
      go_wp2_with fail
      go_ret
      exact ⟨rfl, HB2.out⟩
end Go.Proofs.YtdjodigimhgklaaGreatDoor

/- The walk of joinTwo. -/
namespace Go.Proofs.YtdjodigimhgklaaGreatDoor
open Go.RowKit Go.Shelf Go.Maps

attribute [local go_sem] Oper.semAt_some

def sliceLen : Value → Nat
  | .slice _ n _ => n
  | _ => 0
theorem prV_tail {W : World} {b o k c : Nat} {l : List Pr} (h : PrV W (some ⟨b, o, none⟩) k c l) (hk : 0 < k) : PrV W (some ⟨b, o + 2, none⟩) (k - 1) (c - 1) (l.drop 1) := by
  refine ⟨⟨by rw [List.length_drop, h.prs.1], fun h0 => ?_⟩, fun e => (by cases e), (by have := h.cap; omega)⟩
  obtain ⟨b', o', e, hc⟩ := h.prs.2 hk
  cases e
  refine ⟨b, o + 2, rfl, fun j p hj => ?_⟩
  have := hc (j + 1) p (by rw [List.getElem?_drop] at hj; rw [Nat.add_comm]; exact hj)
  rw [show o + (j + 1) * 2 = o + 2 + j * 2 by omega] at this
  exact this
theorem prV_last {W : World} {b o k c : Nat} {l : List Pr} (h : PrV W (some ⟨b, o, none⟩) k c l) (hk : 0 < k) (hc : c = 1) : PrV W (some ⟨b, o, none⟩) (k - 1) (c - 1) (l.drop 1) := by
  have h1 := h.cap
  have h2 : k = 1 := by omega
  subst h2
  exact ⟨⟨by rw [List.length_drop, h.prs.1], fun h0 => (by omega)⟩, fun e => (by cases e), (by omega)⟩
abbrev zP : Obj := .cells #[.int .u64 0, .int .u64 0] 39
theorem vb_drew {B : Nat} {w W : World} (h : Below B w W) : Below B w W.drew := ⟨h.os, h.tape, h.output, h.size, h.block⟩
end Go.Proofs.YtdjodigimhgklaaGreatDoor

/- The walks of the document's Sorted and Bytes. -/
namespace Go.Proofs.YtdjodigimhgklaaGreatDoor
open Go.RowKit Go.Shelf Go.Maps

attribute [local go_sem] Oper.semAt_some

set_option maxRecDepth 100000 in
set_option maxHeartbeats 4000000 in
theorem rsortedB_any (w : World) (a : Option Addr) (n c : Nat) (l : List Pr) (h : Prs w a n l) (hn : n ≤ 100000) :
    Calls Tryz.prog 44 #[.slice a n c] w fun e w' => ∃ ad m c', e = .returned (.slice ad m c') ∧ ∃ l', PrQ w' ad m c' l' ∧ SortR l l' ∧ Below w.heap.size w w' := by
  go_enter Tryz.func44, Tryz.ntmps44
  go_wp2
  go_loopw [3, 4] (fun v i wr => ∃ (k m c' : Nat) (ad : Option Addr), k ≤ n ∧ m ≤ k ∧ i = .int .i64 (k : Int) ∧ v = .slice ad m c' ∧ Hid (∃ l', PrV wr ad m c' l' ∧ SortR (l.take k) l' ∧ Below w.heap.size w wr ∧ PairB wr ad)) (fun _ i _ => n - (intOf i).toNat)
  case atStart => exact ⟨0, 0, 0, none, Nat.zero_le _, Nat.le_refl _, rfl, rfl, [], ⟨prs_nil _ _, fun _ => ⟨rfl, rfl⟩, Nat.le_refl _⟩, by rw [List.take_zero]; exact SortR.start, Below.refl _ _, PairB.none _⟩
  case round =>
    obtain ⟨k, m, c', ad, hk, hmk, rfl, rfl, H⟩ := hrel
    by_cases hlt : k < n
    · obtain ⟨⟨x, y⟩, hx⟩ : ∃ x, l[k]? = some x := ⟨_, List.getElem?_eq_getElem (by rw [h.1]; exact hlt)⟩
      obtain ⟨l', hP, hS, hB, hPB⟩ := H.out
      obtain ⟨b1, o1, rfl, hc1⟩ := (h.kept hB).2 (by omega)
      obtain ⟨q1, q2⟩ := hc1 k _ hx
      have i2 : (k : Int) < (n : Int) := by omega
      have i3 : ¬ n ≤ k := by omega
      have hput := rputB_any wr ad m c' x y l' hP (by omega)
      have HT : Hid (l.take (k + 1) = l.take k ++ [(x, y)] ∧ SortR (l.take k) l' ∧ Below w.heap.size w wr ∧ PairB wr ad) := ⟨take_getV hx, hS, hB, hPB⟩
      have hml : l'.length = m := hP.prs.1
      have HN : Hid (l.length = n) := h.1
      simp only at q1 q2
      clear hc1 hx h H hP hS hB hPB
      go_wp2_with (go_at_call 47; refine hput.mono ?_; clear hput; rintro e w1 ⟨ad1, m1, c1, l1, rfl, hP1, hR1, hB1, hPB1⟩)
      have H1 : Hid (∃ l', PrV w1 ad1 m1 c1 l' ∧ SortR (l.take (k + 1)) l' ∧ Below w.heap.size w w1 ∧ PairB w1 ad1) := ⟨l1, hP1, by rw [HT.out.1]; exact HT.out.2.1.step hR1, HT.out.2.2.1.trans (hB1.mono HT.out.2.2.1.size), hPB1 HT.out.2.2.2⟩
      have hm1 : m1 ≤ k + 1 := by
        have h1 := putR_len hR1
        have h2 := hP1.prs.1
        omega
      clear hP1 hR1 hB1 hPB1
      go_roundw
      case rel => exact ⟨k + 1, m1, c1, ad1, by omega, hm1, by go_num, rfl, H1⟩
      case measure => simp [intOf]; omega
    · obtain rfl : k = n := by omega
      have HZ : Hid (∃ l', PrV wr ad m c' l' ∧ SortR l l' ∧ Below w.heap.size w wr ∧ PairB wr ad) := by
        have e := H.out
        rw [List.take_of_length_le (by rw [h.1]; exact Nat.le_refl _)] at e
        exact e
      go_wp2
      go_ret
      obtain ⟨l', z1, z2, z3, z4⟩ := HZ.out
      exact ⟨ad, m, c', rfl, l', ⟨z1, z4⟩, z2, z3⟩

theorem rsorted_any (w : World) (a : Option Addr) (n c : Nat) (l : List Pr) (h : Prs w a n l) (hn : n ≤ 100000) :
    Calls Tryz.prog 44 #[.slice a n c] w fun e w' => ∃ ad m c', e = .returned (.slice ad m c') ∧ ∃ l', PrV w' ad m c' l' ∧ SortR l l' ∧ Below w.heap.size w w' := by
  refine (rsortedB_any w a n c l h hn).mono ?_
  rintro e w' ⟨ad, m, c', he, l', h1, h2, h3⟩
  exact ⟨ad, m, c', he, l', h1.toPrV, h2, h3⟩
/-- bytes put together so far, in a row of the call's own -/
def OwnY (w wr : World) (v : Value) (L : List UInt8) : Prop := wr.ownsRow w.heap.size 5 1 v L.length (cellsOf L) ∧ Below w.heap.size w wr
theorem OwnY.below {w wr wx : World} {v : Value} {L : List UInt8} (h : OwnY w wr v L) (hB : Below wr.heap.size wr wx) : OwnY w wx v L :=
  ⟨h.1.kept (row := none) ⟨hB.os, hB.tape, hB.output, hB.size, fun k hk _ => hB.block k hk⟩ (by cases v.ownBlock <;> simp), h.2.trans (hB.mono h.2.size)⟩
theorem OwnY.app {w wr wx : World} {v v' : Value} {L M : List UInt8} {n m : Nat} (h : OwnY w wr v L) (hn : n = L.length) (hm : M.length = m) (ho : wx.ownsRow w.heap.size 5 1 v' (n + m) (cellsOf L ++ cellsOf M)) (hg : wr.grownBy wx v.ownBlock) : OwnY w wx v' (L ++ M) := by
  refine ⟨?_, h.2.grown hg h.2.size (fun k hk => (vrow_block h.1 k hk).1)⟩
  rw [List.length_append, cellsOf_append, hm, ← hn]
  exact ho
set_option maxRecDepth 100000 in
set_option maxHeartbeats 4000000 in
theorem rbytes_any (w : World) (a : Option Addr) (n c : Nat) (l : List Pr) (h : Prs w a n l) (hok : PrOk l) (hn : n ≤ 100000) :
    Calls Tryz.prog 51 #[.slice a n c] w fun e w' => ∃ ad cp, e = .returned (.slice ad (runB l).length cp) ∧ w'.ownsRow w.heap.size 5 1 (.slice ad (runB l).length cp) (runB l).length (cellsOf (runB l)) ∧ Below w.heap.size w w' := by
  have hu := refUint_any n w (by omega)
  have HS : Hid ((short n).length ≤ 10 ∧ headB l = short n ++ prBytes l) := ⟨short_len n, by unfold headB; rw [h.1]⟩
  go_enter Tryz.func51, Tryz.ntmps51
  go_wp2_with (go_at_call 90; refine hu.mono ?_; clear hu; rintro e w1 ⟨v1, rfl, ho1, hB1⟩)
  have H1 : Hid (OwnY w w1 v1 (short n ++ prBytes (l.take 0))) := by
    rw [List.take_zero]
    simp only [prBytes, List.append_nil]
    exact ⟨ho1, hB1⟩
  clear ho1 hB1
  go_loopw [3, 4] (fun v i wr => ∃ k : Nat, k ≤ n ∧ i = .int .i64 (k : Int) ∧ Hid (OwnY w wr v (short n ++ prBytes (l.take k)))) (fun _ i _ => n - (intOf i).toNat)
  case atStart => exact ⟨0, Nat.zero_le _, rfl, H1⟩
  case round =>
    clear H1
    obtain ⟨k, hk, rfl, H⟩ := hrel
    by_cases hlt : k < n
    · obtain ⟨⟨x, y⟩, hx⟩ : ∃ x, l[k]? = some x := ⟨_, List.getElem?_eq_getElem (by rw [h.1]; exact hlt)⟩
      obtain ⟨b1, o1, rfl, hc1⟩ := h.2 (by omega)
      obtain ⟨t1, t2⟩ := hc1 k _ hx
      have q1 := (H.out.2.cell (p := ⟨b1, o1 + k * 2, none⟩) (World.block_lt_of_cell? w _ t1)).trans t1
      have HQ : Hid (∀ W, Below w.heap.size w W → W.cell? ⟨b1, o1 + k * 2 + 1, none⟩ = some (.int .u64 (y : Int))) := fun W hW => (hW.cell (p := ⟨b1, o1 + k * 2 + 1, none⟩) (World.block_lt_of_cell? w _ t2)).trans t2
      have i2 : (k : Int) < (n : Int) := by omega
      have i3 : ¬ n ≤ k := by omega
      have hxy := hok _ (List.mem_of_getElem? hx)
      simp only at hxy q1
      have HX : Hid (x < 18446744073709551616 ∧ y < 18446744073709551616) := hxy
      have HE : Hid ((short n ++ prBytes (l.take k)).length ≤ 2000000 ∧ short n ++ prBytes (l.take (k + 1)) = short n ++ prBytes (l.take k) ++ wide x ++ wide y) := by
        refine ⟨?_, ?_⟩
        · rw [List.length_append, prBytes_len, List.length_take]
          have := HS.out.1
          omega
        · rw [take_getV hx, prBytes_app]
          simp only [prBytes, List.append_nil, List.append_assoc]
      clear hc1 t1 t2 hx h hxy
      generalize short n ++ prBytes (l.take k) = L at *
      obtain ⟨N, hN⟩ : ∃ N, N = L.length := ⟨_, rfl⟩
      have HN : Hid (N = L.length) := hN
      have hN2 : N ≤ 2000000 := by rw [hN]; exact HE.out.1
      clear hN
      go_wp2_with first
        | (at_builtin; refine vwpList_app _ w.heap.size H4.out.1.2.size rfl _ _ rfl v3 (N + 8) (cellsOf (L ++ wide x)) rfl (by have := H4.out.1.1; rw [List.length_append, vwide_len, ← HN.out] at this; exact this) (some ⟨w3.heap.size, 0, none⟩) 8 8 (wide y) rfl H4.out.2 (fun e => by cases e) (by omega) ?_; intro v5 w5 ho5 hg5 _; have H5 : Hid (OwnY w w5 v5 (L ++ wide x ++ wide y)) := H4.out.1.app (by rw [List.length_append, vwide_len, HN.out]) (vwide_len y) ho5 hg5; clear ho5 hg5)
        | (go_at_call 92; refine (refWord_any y w3 HX.out.2).mono ?_; rintro e w4 ⟨rfl, hb4, hB4⟩; have H4 : Hid (OwnY w w4 v3 (L ++ wide x) ∧ Bytes w4 (some ⟨w3.heap.size, 0, none⟩) 8 (wide y)) := ⟨H3.out.below hB4, hb4⟩; clear hb4 hB4)
        | (at_builtin; refine vwpList_app _ w.heap.size H2.out.1.2.size rfl _ _ rfl u3 N (cellsOf L) rfl (by rw [HN.out]; exact H2.out.1.1) (some ⟨wr.heap.size, 0, none⟩) 8 8 (wide x) rfl H2.out.2 (fun e => by cases e) (by omega) ?_; intro v3 w3 ho3 hg3 _; have H3 : Hid (OwnY w w3 v3 (L ++ wide x)) := H2.out.1.app HN.out (vwide_len x) ho3 hg3; clear ho3 hg3; have cq3 := HQ.out w3 H3.out.2)
        | (go_at_call 92; refine (refWord_any x wr HX.out.1).mono ?_; rintro e w2 ⟨rfl, hb2, hB2⟩; have H2 : Hid (OwnY w w2 u3 L ∧ Bytes w2 (some ⟨wr.heap.size, 0, none⟩) 8 (wide x)) := ⟨H.out.below hB2, hb2⟩; clear hb2 hB2)
      go_roundw
      case rel => exact ⟨k + 1, by omega, by go_num, by rw [HE.out.2]; exact H5.out⟩
      case measure => simp [intOf]; omega
    · obtain rfl : k = n := by omega
      have HF : Hid (OwnY w wr u3 (headB l)) := by
        have e := H.out
        rw [List.take_of_length_le (by rw [h.1]; exact Nat.le_refl _), ← HS.out.2] at e
        exact e
      have HNl : Hid ((headB l).length ≤ 2000000) := by
        show _ ≤ _
        rw [HS.out.2, List.length_append, prBytes_len, h.1]
        have := HS.out.1
        omega
      have HR : Hid (runB l = headB l ++ wide (vhashN (headB l)) ∧ hashTo (headB l) (headB l).length = (vhashN (headB l) : Int) ∧ vhashN (headB l) < 18446744073709551616) := ⟨rfl, vhashN_int _ _ rfl, vhashN_lt _⟩
      clear H h hok
      generalize vhashN (headB l) = vh at *
      generalize headB l = L at *
      obtain ⟨ad, cp, rfl, _⟩ := vrow_shape HF.out.1
      obtain ⟨N, hN⟩ : ∃ N, N = L.length := ⟨_, rfl⟩
      have HN : Hid (N = L.length) := hN
      have hN2 : N ≤ 2000000 := by rw [hN]; exact HNl.out
      rw [← hN] at HF ⊢
      have HF2 : Hid (OwnY w wr (.slice ad N cp) L) := by rw [hN]; exact (by rw [hN] at HF; exact HF.out : OwnY w wr (.slice ad L.length cp) L)
      have hh := hash_any
      have hhash := refHash_any ad N cp L wr (by rw [hN]; have := HF2.out.1; rw [hN] at this; exact vrow_bytes this) (by unfold maxLen; omega)
      rw [hN, HR.out.2.1, ← hN] at hhash
      clear hN hh
      go_wp2_with first
        | (go_at_call 93; refine hhash.mono ?_; clear hhash; rintro e w2 ⟨rfl, hw2⟩; subst hw2)
        | (go_at_call 92; refine (refWord_any vh w2 HR.out.2.2).mono ?_; rintro e w4 ⟨rfl, hb4, hB4⟩; have H4 : Hid (OwnY w w4 (.slice ad N cp) L ∧ Bytes w4 (some ⟨w2.heap.size, 0, none⟩) 8 (wide vh)) := ⟨HF2.out.below hB4, hb4⟩; clear hb4 hB4)
        | (at_builtin; refine vwpList_app _ w.heap.size H4.out.1.2.size rfl _ _ rfl (.slice ad N cp) N (cellsOf L) rfl (by have := H4.out.1.1; rw [← HN.out] at this; exact this) (some ⟨w2.heap.size, 0, none⟩) 8 8 (wide vh) rfl H4.out.2 (fun e => by cases e) (by omega) ?_; intro v5 w5 ho5 hg5 _; have H5 : Hid (OwnY w w5 v5 (L ++ wide vh)) := H4.out.1.app HN.out (vwide_len vh) ho5 hg5; clear ho5 hg5)
      go_ret
      obtain ⟨ad5, cp5, rfl, _⟩ := vrow_shape H5.out.1
      rw [HR.out.1]
      exact ⟨ad5, cp5, rfl, H5.out.1, H5.out.2⟩
end Go.Proofs.YtdjodigimhgklaaGreatDoor
