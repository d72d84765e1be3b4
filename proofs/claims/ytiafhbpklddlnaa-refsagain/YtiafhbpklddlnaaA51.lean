import Derived.Test.YtiafhbpklddlnaaA50
import Derived.Maps.OwnIn
import Derived.Maps.AppendAt
/- The law's own functions: all refs as a list, changes cut short, two lists held against each other. -/
namespace Go.Proofs.Ytiafhbpklddlnaa
open Go.RowKit Go.Shelf Go.Maps

attribute [local go_sem] Oper.semAt_some

theorem row_baseC {W : World} {base base' n : Nat} {v : Value} {xs : List Value} (h : W.ownsRow base 31 2 v n xs) (hb : base' ≤ base) : W.ownsRow base' 31 2 v n xs := by
  refine ⟨h.1, ?_⟩
  rcases h.2 with h | ⟨g, cap, cur, rfl, hg, rest⟩
  · exact .inl h
  · exact .inr ⟨g, cap, cur, rfl, Nat.le_trans hb hg, rest⟩
/-- a change as the law cuts it -/
def cutOne (x : Ch) : Ch := (x.1.extract 0 (min (x.1.size : Int) 250).toNat, x.2)
def cutR (l : List Ch) : List Ch := (l.take 80).map cutOne
/-- a list of refs that is under way, in box c -/
def LstI (c : Nat) (pre : List Ch) (f : Nat → Prop) (W : World) : Prop := ∃ v, Boxed W c 37 v ∧ W.ownsRow (c + 1) 31 2 v pre.length (chCells pre) ∧ ∀ k, f k ↔ (k = c ∨ v.ownBlock = some k)
theorem lstI_apart (c : Nat) : Apart (LstI c) := by
  refine ⟨fun s f X Y ⟨v, h1, h2, h3⟩ ht => ⟨v, (ht.block c h1.lt (fun h => h ((h3 c).2 (.inl rfl)))).trans h1, row_movedC h2 (fun g hg => ht.block g (row_blockC h2 g hg).2 (fun h => h ((h3 g).2 (.inr hg)))), h3⟩, fun s f X ⟨v, h1, h2, h3⟩ k hk => ?_⟩
  rcases (h3 k).1 hk with rfl | e
  · exact h1.lt
  · exact (row_blockC h2 k e).2

theorem lst_box {c : Nat} {W w1 : World} {v : Value} {pre : List Ch} {o : Obj} (hbx : Boxed W c 37 v) (hrow : W.ownsRow (c + 1) 31 2 v pre.length (chCells pre)) (hg : (W.alloc o).grownBy w1 v.ownBlock) : Boxed w1 c 37 v :=
  (hbx.alloc o).kept hg (fun e => by have := (row_blockC hrow c e.symm).1; omega)
theorem lst_push {c : Nat} {W w1 : World} {v v' : Value} {pre : List Ch} {x : Ch} {f : Nat → Prop} {o : Obj} (hbx : Boxed W c 37 v) (hrow : W.ownsRow (c + 1) 31 2 v pre.length (chCells pre)) (hf : ∀ k, f k ↔ (k = c ∨ v.ownBlock = some k))
    (hown : w1.ownsRow (c + 1) 31 2 v' (pre.length + 1) (chCells pre ++ chCells [x])) (hg : (W.alloc o).grownBy w1 v.ownBlock) (hat : v'.ownBlock = v.ownBlock ∨ v'.ownBlock = some (W.alloc o).heap.size) :
    ∃ f', (∀ k, f' k → f k ∨ W.heap.size ≤ k) ∧ Turn f W (w1.setCell ⟨c, 0, none⟩ v') ∧ LstI c (pre ++ [x]) f' (w1.setCell ⟨c, 0, none⟩ v') := by
  refine ⟨fun k => k = c ∨ v'.ownBlock = some k, fun k hk => ?_, ?_, v', (lst_box hbx hrow hg).set v', ?_, fun _ => Iff.rfl⟩
  · rcases hk with rfl | e
    · exact .inl ((hf _).2 (.inl rfl))
    · rcases hat with e' | e'
      · rw [e'] at e; exact .inl ((hf k).2 (.inr e))
      · rw [e'] at e
        have : (W.alloc o).heap.size = k := by simpa using e
        rw [World.size_alloc] at this
        exact .inr (by omega)
  · exact ((Turn.of_below f ((Below.refl _ W).alloc (Nat.le_refl _) o)).trans (Turn.of_grownBy (Fp := fun k => v.ownBlock = some k) hg (fun k e => .inl e)) (fun k _ e => (hf k).2 (.inr e))).trans (turn_setCell w1 c 0 _) (fun k _ e => (hf k).2 (.inl e))
  · rw [List.length_append, List.length_singleton, chCells_append]
    exact row_movedC hown (fun g e => Below.heap_setCell _ _ _ _ (fun e' => by have := (row_blockC hown g e).1; simp only at e'; omega))

set_option maxRecDepth 100000 in
set_option maxHeartbeats 4000000 in
theorem lall_any (w : World) (r d j b : Nat) (M : DataW Value) (rs : List (List UInt8)) (g : List UInt8 → Int) (n sz : Nat) (cut : Bool) (FJ F : Nat → Prop) (h : RfAt w r d j b M rs g n sz cut FJ F) (hn : n ≤ 1000000) (L : List Ch) (hL : AllR g n L) :
    Calls Try.prog 15 #[.pointer (some ⟨r, 0, none⟩)] w fun e w' => ∃ ad cp, e = .returned (.slice ad L.length cp) ∧ w'.ownsRow w.heap.size 31 2 (.slice ad L.length cp) L.length (chCells L) ∧ Below w.heap.size w w' := by
  refine (callsIn_wide (n := 5)).1 ?_
  refine callsIn_of_wp_marks Try.func15 rfl trivial ?_ rfl
  simp only [Try.ntmps15, List.size_toArray, List.length_cons, List.length_nil, Nat.reduceAdd, Nat.reduceSub, Array.replicate_succ, Array.replicate_zero, List.push_toArray, List.append_toArray, List.nil_append, List.cons_append]
  have hmx : Try.prog.follows .mixedOrders = true := by kernel_rfl
  refine wpIn_wide.2 ?_
  go_wp2_with (go_at_call 10; refine (all_any _ _).mono ?_; rintro e w8 ⟨rfl, h8⟩; subst h8)
  obtain ⟨wz, hwz⟩ : ∃ wz, wz = (w.alloc (.cells #[.slice none 0 0] 37)).alloc (.cells #[.pointer (some ⟨r, 0, none⟩)] 25) := ⟨_, rfl⟩
  have hzs : wz.heap.size = w.heap.size + 2 := by rw [hwz]; simp
  have bU : Boxed wz w.heap.size 37 (.slice none 0 0) := by
    have := (Boxed.new w 37 (.slice none 0 0)).alloc (.cells #[.pointer (some ⟨r, 0, none⟩)] 25)
    rw [hwz]; exact this
  have bB : Boxed wz (w.heap.size + 1) 25 (.pointer (some ⟨r, 0, none⟩)) := by
    have := Boxed.new (w.alloc (.cells #[.slice none 0 0] 37)) 25 (.pointer (some ⟨r, 0, none⟩))
    rw [World.size_alloc] at this
    rw [hwz]; exact this
  have Bz : Below w.heap.size w wz := by rw [hwz]; exact ((Below.refl _ w).alloc (Nat.le_refl _) _).alloc (by simp) _
  rw [← hwz]
  clear hwz
  have hll := hL.len
  obtain ⟨i0, hi, hz0, hz1, hz2⟩ := info_parts infoRef
  refine (wpIn_wide (n := 5)).1 ?_
  refine range_owns (α := Ch) (w := wz) rfl (by omega) (gf := 29) (lb := #[.pointer (some ⟨w.heap.size + 1, 0, none⟩)]) rfl trivial (enters_of Try.func29 (by kernel_rfl) rfl)
    (all_tells wz r d j b M rs g n sz cut FJ F (h.below Bz) (w.heap.size + 1) bB.cell hn L hL 4 (by omega)) (fun _ => rfl) (fun k hk => hk.elim)
    (LstI w.heap.size) (fun _ _ _ _ => False) (lstI_apart _) (fun _ => ⟨fun _ _ _ _ h _ => h, fun _ _ _ h => h.elim⟩) (fun _ _ _ _ _ h _ => h) (fun k => k = w.heap.size) (fun _ _ h => h) ⟨_, bU, World.ownsRow_nil _ _ _ _, fun k => by simp [Value.ownBlock]⟩ ?act ?assign ?body ?done ?stop
  case assign =>
    intro l x W K hK
    gi_wp2
    exact hK
  case body =>
    rintro l pre x f W hW ⟨v, hbx, hrow, hf⟩ hpx
    have hpl : pre.length < L.length := (List.getElem?_eq_some_iff.1 hpx).1
    have cC := hbx.cell
    have H : Hid (Boxed W w.heap.size 37 v ∧ W.ownsRow (w.heap.size + 1) 31 2 v pre.length (chCells pre) ∧ ∀ k, f k ↔ (k = w.heap.size ∨ v.ownBlock = some k)) := ⟨hbx, hrow, hf⟩
    clear hbx hf bU bB Bz hpx hL
    obtain ⟨nm, iv⟩ := x
    have hcs : w.heap.size + 1 ≤ W.heap.size := by omega
    gi_wp2_with (gi_at_builtin; refine wpListIn_append_own_at _ rfl _ _ 37 rfl (w.heap.size + 1) 31 i0 _ 2 24 Try.underlying37 hi hz0 hz1 hz2 rfl (by decide) _ _ _ rfl (hrow.alloc _) ⟨W.heap.size, 0, none⟩ 1 1 (chCells [(nm, iv)]) rfl rfl (cells_two_new W (nm, iv)) (chCells_one _) (by unfold maxLen; omega) (by omega) (by simp; omega) ?_; intro v' w1 hown' hgrow _ hat; obtain ⟨ad', cp', rfl, _⟩ := row_shapeC hown'; have hst := lst_push (x := (nm, iv)) H.out.1 H.out.2.1 H.out.2.2 hown' hgrow hat; have bx := lst_box H.out.1 H.out.2.1 hgrow; have cx := bx.cell; have fx := bx.frozen; have HST : Hid _ := hst; clear hst hown' hgrow hat)
    exact HST.out
  case done =>
    rintro D xs f W hD rfl ⟨v, hbx, hrow, hf⟩ hff hnD hT hK
    have cC := hbx.cell
    obtain ⟨ad, cp, rfl, _⟩ := row_shapeC hrow
    have H : Hid (W.heap[D]? = some (.deferred (some [])) ∧ wz.heap.size ≤ D ∧ W.ownsRow (w.heap.size + 1) 31 2 (.slice ad xs.length cp) xs.length (chCells xs) ∧ Below w.heap.size w W) := ⟨hK, hD, hrow, Bz.trans (hT.below (by omega) (fun k hk => by omega))⟩
    clear hbx hrow hf hff hnD hT hK hD bU bB Bz hll hL
    gi_wp2
    go_wp2_with fail
    obtain ⟨hK, hD, hrow, hb⟩ := H.out
    have hE := rturn_put (.deferred none) (Turn.of_below (fun _ => False) hb) (D := D) (by omega)
    refine rfin_m (v := .slice ad xs.length cp) hK (by simp [results, Try.results15, go_sem]) ⟨ad, cp, rfl, ?_, hE.below (Nat.le_refl _) (fun _ h => h.elim)⟩
    refine row_movedC (row_baseC hrow (by omega)) (fun g e => World.putObj_heap_other (fun e' => ?_))
    subst e'
    rcases hrow.2 with ⟨e1, _⟩ | ⟨g', cap, cur, e1, _, hg', _⟩
    · obtain rfl : ad = none := (Value.slice.inj e1).1
      cases e
    · cases e1; cases e; rw [hK] at hg'; cases hg'
  case stop =>
    rintro D c pre f W hD hX
    exact hX.elim
end Go.Proofs.Ytiafhbpklddlnaa

/- The law's own functions: changes cut short. -/
namespace Go.Proofs.Ytiafhbpklddlnaa
open Go.RowKit Go.Shelf Go.Maps

attribute [local go_sem] Oper.semAt_some

theorem cutR_len (l : List Ch) : (cutR l).length = min 80 l.length := by simp [cutR]
theorem cutR_take (l : List Ch) (k : Nat) (hk : 80 ≤ k) : cutR (l.take k) = cutR l := by
  unfold cutR
  rw [List.take_take, Nat.min_eq_left hk]
theorem cutR_snoc {l : List Ch} {k : Nat} {x : Ch} (h : l[k]? = some x) (hk : k < 80) : cutR (l.take (k + 1)) = cutR (l.take k) ++ [cutOne x] := by
  unfold cutR
  rw [List.take_take, List.take_take, Nat.min_eq_right (by omega), Nat.min_eq_right (by omega), List.take_add_one, h]
  simp
theorem two_new_at (w : World) (x : Ch) : ∀ j u, (chCells [x])[j]? = some u → ((w.alloc (.cells #[.string x.1, .int .u64 x.2] 31)).alloc (.cells #[.string x.1, .int .u64 x.2] 31)).cell? ((⟨w.heap.size + 1, 0, none⟩ : Addr).add j) = some u := by
  have := cells_two_new (w.alloc (.cells #[.string x.1, .int .u64 x.2] 31)) x
  rw [World.size_alloc] at this
  exact this

set_option maxRecDepth 100000 in
set_option maxHeartbeats 4000000 in
theorem lcut_any (w : World) (a : Option Addr) (m c : Nat) (l : List Ch) (hl : Chs w a m l) (hs : ShortR l) :
    Calls Try.prog 16 #[.slice a m c] w fun e w' => ∃ ad cp, e = .returned (.slice ad (cutR l).length cp) ∧ w'.ownsRow w.heap.size 31 2 (.slice ad (cutR l).length cp) (cutR l).length (chCells (cutR l)) ∧ Below w.heap.size w w' := by
  have hll := hl.1
  obtain ⟨i0, hi, hz0, hz1, hz2⟩ := info_parts infoRef
  go_enter Try.func16, Try.ntmps16
  go_wp2
  go_loopw [3, 8] (fun o i wr => ∃ (k : Nat) (ad : Option Addr) (p cp : Nat), k ≤ m ∧ k ≤ 80 ∧ i = .int .i64 (k : Int) ∧ o = .slice ad p cp ∧ p = k ∧ Hid (wr.ownsRow w.heap.size 31 2 (.slice ad p cp) p (chCells (cutR (l.take k))) ∧ Below w.heap.size w wr)) (fun _ i _ => m - (intOf i).toNat)
  case atStart => exact ⟨0, none, 0, 0, Nat.zero_le _, Nat.zero_le _, rfl, rfl, rfl, World.ownsRow_nil _ _ _ _, Below.refl _ _⟩
  case round =>
    obtain ⟨k, ad, p, cp, hk, hk80, rfl, rfl, hp, H⟩ := hrel
    have hp' : k = p := hp.symm
    clear hp
    subst hp'
    by_cases hlt : k < m
    · obtain ⟨x, hx⟩ : ∃ x, l[k]? = some x := ⟨_, List.getElem?_eq_getElem (by omega)⟩
      obtain ⟨b1, o1, rfl, hc1⟩ := hl.2 (by omega)
      obtain ⟨t1, t2⟩ := hc1 k x hx
      have hsx := hs k x hx
      obtain ⟨hrow, hB⟩ := H.out
      have q1 := (hB.cell (p := ⟨b1, o1 + k * 2, none⟩) (World.block_lt_of_cell? w _ t1)).trans t1
      have q2 := (hB.cell (p := ⟨b1, o1 + k * 2 + 1, none⟩) (World.block_lt_of_cell? w _ t2)).trans t2
      have i2 : (k : Int) < (m : Int) := by omega
      have i3 : ¬ m ≤ k := by omega
      have HX : Hid (l[k]? = some x) := hx
      clear hc1 hx t1 t2
      obtain ⟨nm, iv⟩ := x
      simp only at q1 q2 hsx
      by_cases h80 : k = 80
      · subst h80
        have HR : Hid (wr.ownsRow w.heap.size 31 2 (.slice ad 80 cp) 80 (chCells (cutR l)) ∧ Below w.heap.size w wr ∧ 80 = (cutR l).length) := by
          obtain ⟨h1, h2⟩ := H.out
          rw [cutR_take l 80 (by omega)] at h1
          exact ⟨h1, h2, by rw [cutR_len]; omega⟩
        clear H hrow hB
        have hB0 := (Below.refl _ wr).alloc (Nat.le_refl _) (.cells #[.string nm, .int .u64 iv] 31)
        go_wp2
        go_ret
        obtain ⟨h1, h2, h3⟩ := HR.out
        rw [← h3]
        exact ⟨ad, cp, rfl, h1.alloc _, h2.alloc h2.size _⟩
      · have i4 : ¬ (k : Int) = 80 := by omega
        obtain ⟨nm', hnm⟩ : ∃ nm', nm' = nm.extract 0 (min (nm.size : Int) 250).toNat := ⟨_, rfl⟩
        have hr2 := (hrow.alloc (.cells #[.string nm', .int .u64 iv] 31))
        have hr3 := (hr2.alloc (.cells #[.string nm', .int .u64 iv] 31))
        have hB3 : Below w.heap.size w ((wr.alloc (.cells #[.string nm', .int .u64 iv] 31)).alloc (.cells #[.string nm', .int .u64 iv] 31)) := (hB.alloc hB.size _).alloc (by simp; have := hB.size; omega) _
        have hct := cutR_snoc HX.out (by omega)
        rw [show cutOne (nm, iv) = (nm', iv) from by rw [hnm]; rfl] at hct
        have HN : Hid (cutR (l.take (k + 1)) = cutR (l.take k) ++ [(nm', iv)] ∧ Below w.heap.size w ((wr.alloc (.cells #[.string nm', .int .u64 iv] 31)).alloc (.cells #[.string nm', .int .u64 iv] 31))) := ⟨hct, hB3⟩
        have hw0 := hB.size
        clear hrow H HX hct hB hB3 hr2
        subst hnm
        go_wp2_with (at_builtin; (refine wpList_append_own_at _ rfl _ _ 37 rfl w.heap.size 31 i0 _ 2 24 Try.underlying37 hi hz0 hz1 hz2 rfl (by decide) _ k _ rfl hr3 ⟨wr.heap.size + 1, 0, none⟩ 1 1 (chCells [(_, iv)]) rfl rfl (two_new_at _ (_, iv)) (chCells_one _) (by unfold maxLen; omega) (by omega) (by simp; omega) ?_; intro v' w5 hown5 hgr5 _ hat5; have HB5 : Hid (Below w.heap.size w w5) := HN.out.2.trans (below_grC hr3 HN.out.2.size hgr5); have H5 : Hid (w5.ownsRow w.heap.size 31 2 v' (k + 1) (chCells (cutR (l.take (k + 1))))) := (by rw [HN.out.1, chCells_append]; exact hown5 : w5.ownsRow w.heap.size 31 2 v' (k + 1) (chCells (cutR (l.take (k + 1))))); clear hgr5 hat5; obtain ⟨ad5, cp5, hv5, _⟩ := row_shapeC hown5; clear hown5; subst hv5))
        go_roundw
        case rel => exact ⟨k + 1, ad5, k + 1, cp5, by omega, by omega, by simp, rfl, by omega, H5.out, HB5.out⟩
        case measure => simp [intOf]; omega
    · obtain rfl : k = m := by omega
      have i2 : ¬ (k : Int) < (k : Int) := by omega
      have HR : Hid (wr.ownsRow w.heap.size 31 2 (.slice ad k cp) k (chCells (cutR l)) ∧ Below w.heap.size w wr ∧ k = (cutR l).length) := by
        obtain ⟨h1, h2⟩ := H.out
        rw [List.take_of_length_le (by omega)] at h1
        exact ⟨h1, h2, by rw [cutR_len]; omega⟩
      clear H
      go_wp2
      go_ret
      obtain ⟨h1, h2, h3⟩ := HR.out
      rw [← h3]
      exact ⟨ad, cp, rfl, h1, h2⟩
end Go.Proofs.Ytiafhbpklddlnaa
