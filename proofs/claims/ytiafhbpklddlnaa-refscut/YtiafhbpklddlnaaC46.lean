import Derived.Test.YtiafhbpklddlnaaC42
/- The walk of the law RefsNone. -/
namespace Go.Proofs.Ytiafhbpklddlnaa
open Go.RowKit Go.Shelf Go.Maps

attribute [local go_sem] Oper.semAt_some

/-- the law's own result box stands, and nothing that was there is touched -/
structure CstR (w W : World) : Prop where
  bel : Below w.heap.size w W
  box : Boxed W w.heap.size 4 (.bool false)
theorem CstR.below {w W W' : World} (h : CstR w W) (hB : Below W.heap.size W W') : CstR w W' := ⟨h.bel.trans (hB.mono h.bel.size), (hB.block _ h.box.lt).trans h.box⟩
theorem CstR.alloc {w W : World} (h : CstR w W) (o : Obj) : CstR w (W.alloc o) := h.below ((Below.refl _ W).alloc (Nat.le_refl _) o)
theorem cstR_own (w : World) {B : Nat} (hB : w.heap.size < B) {β : Type} : OwnFrom B (fun (_ : β) W => CstR w W) := by
  rintro s X Y row h hg hr
  refine ⟨⟨hg.os.trans h.bel.os, hg.tape.trans h.bel.tape, hg.output.trans h.bel.output, Nat.le_trans h.bel.size hg.size, fun k hk => (hg.block k (Nat.lt_of_lt_of_le hk h.bel.size) (fun e => by have := (hr k e.symm).1; omega)).trans (h.bel.block k hk)⟩, h.box.kept hg (fun e => by have := (hr _ e.symm).1; omega)⟩
theorem all_any (w : World) (p : Option Addr) : Calls Try.prog 10 #[.pointer p] w fun e w' => e = .returned (.func (.func 29) #[] #[.pointer (some ⟨w.heap.size, 0, none⟩)]) ∧ w' = w.alloc (.cells #[.pointer p] 25) := by
  go_enter Try.func10, Try.ntmps10
  go_wp2
  go_ret
  exact ⟨rfl, rfl⟩
abbrev chE (x : Ch) : Array Value := #[.string x.1, .int .u64 x.2]
/-- refs that are not there tell nothing -/
theorem all_nil (w : World) (B : Nat) (hB : w.cell? ⟨B, 0, none⟩ = some (.pointer none)) (n : Nat) (Kb : Nat → Prop) :
    Tells Fence.wide n Try.prog 29 #[.pointer (some ⟨B, 0, none⟩)] chE (fun _ _ _ => False) Kb (fun xs => xs = []) w := by
  intro l J W hW hJg hY h0
  have hcB : W.cell? ⟨B, 0, none⟩ = some (.pointer none) := (hW.cell (p := ⟨B, 0, none⟩) (World.block_lt_of_cell? w _ hB)).trans hB
  refine callsIn_of_wp Try.func29 rfl trivial ?_ rfl
  simp only [Try.ntmps29, List.size_toArray, List.length_cons, List.length_nil, Nat.reduceAdd, Nat.reduceSub, Array.replicate_succ, Array.replicate_zero, List.push_toArray, List.append_toArray, List.nil_append, List.cons_append]
  have H0 : Hid (J [] W) := h0
  clear hY h0 hJg
  gi_wp2
  refine bodyPost_ret (results_none rfl _ _ _) rfl ?_
  exact ⟨⟨_, rfl⟩, [], rfl, H0.out⟩

/-- a box stands, and nothing that was there is touched -/
structure CstU (w W : World) (b : Nat) : Prop where
  bel : Below w.heap.size w W
  box : Boxed W b 37 (.slice none 0 0)
theorem cstU_own (w : World) {B b : Nat} (hB : w.heap.size ≤ B) (hb : b < B) {β : Type} : OwnFrom B (fun (_ : β) W => CstU w W b) := by
  rintro s X Y row h hg hr
  refine ⟨⟨hg.os.trans h.bel.os, hg.tape.trans h.bel.tape, hg.output.trans h.bel.output, Nat.le_trans h.bel.size hg.size, fun k hk => (hg.block k (Nat.lt_of_lt_of_le hk h.bel.size) (fun e => by have := (hr k e.symm).1; omega)).trans (h.bel.block k hk)⟩, h.box.kept hg (fun e => by have := (hr _ e.symm).1; omega)⟩

set_option maxRecDepth 100000 in
set_option maxHeartbeats 4000000 in
theorem under_nil (w : World) (s : ByteArray) : Calls Try.prog 11 #[.pointer none, .string s] w fun e w' => e = .returned (.slice none 0 0) ∧ Below w.heap.size w w' := by
  refine (callsIn_wide (n := 5)).1 ?_
  refine callsIn_of_wp_marks Try.func11 rfl trivial ?_ rfl
  simp only [Try.ntmps11, List.size_toArray, List.length_cons, List.length_nil, Nat.reduceAdd, Nat.reduceSub, Array.replicate_succ, Array.replicate_zero, List.push_toArray, List.append_toArray, List.nil_append, List.cons_append]
  have hmx : Try.prog.follows .mixedOrders = true := by kernel_rfl
  refine wpIn_wide.2 ?_
  go_wp2_with (go_at_call 10; refine (all_any _ _).mono ?_; rintro e w8 ⟨rfl, h8⟩; subst h8)
  obtain ⟨wz, hwz⟩ : ∃ wz, wz = ((w.alloc (.cells #[.string s] 9)).alloc (.cells #[.slice none 0 0] 37)).alloc (.cells #[.pointer none] 25) := ⟨_, rfl⟩
  have hzs : wz.heap.size = w.heap.size + 3 := by rw [hwz]; simp
  have bU : Boxed wz (w.heap.size + 1) 37 (.slice none 0 0) := by
    have := (Boxed.new (w.alloc (.cells #[.string s] 9)) 37 (.slice none 0 0)).alloc (.cells #[.pointer none] 25)
    rw [World.size_alloc] at this
    rw [hwz]; exact this
  have bB : Boxed wz (w.heap.size + 1 + 1) 25 (.pointer none) := by
    have := Boxed.new ((w.alloc (.cells #[.string s] 9)).alloc (.cells #[.slice none 0 0] 37)) 25 (.pointer none)
    rw [World.size_alloc, World.size_alloc] at this
    rw [hwz]; exact this
  have Bz : Below w.heap.size w wz := by rw [hwz]; exact (((Below.refl _ w).alloc (Nat.le_refl _) _).alloc (by simp) _).alloc (by simp only [World.size_alloc]; omega) _
  rw [← hwz]
  clear hwz
  refine (wpIn_wide (n := 5)).1 ?_
  refine range_told (α := Ch) (w := wz) rfl (by omega) (gf := 29) (lb := #[.pointer (some ⟨w.heap.size + 1 + 1, 0, none⟩)]) rfl trivial (enters_of Try.func29 (by kernel_rfl) rfl)
    (all_nil wz (w.heap.size + 1 + 1) bB.cell 4 (fun _ => False)) (fun _ => rfl) (fun k hk => hk.elim)
    (fun _ W => CstU w W (w.heap.size + 1)) (cstU_own w (by omega) (by omega)) (fun _ _ _ _ _ _ h _ _ => h) ⟨Bz, bU⟩ ?act ?assign ?body ?done
  case assign =>
    intro l x W K hK
    gi_wp2
    exact hK
  case body => exact fun l pre x W _ _ h => h.elim
  case done =>
    rintro D xs W hD hxs hC hK
    have cU := hC.box.cell
    have H : Hid (CstU w W (w.heap.size + 1) ∧ W.heap[D]? = some (.deferred (some []))) := ⟨hC, hK⟩
    clear hC hK
    go_wp2_with fail
    have hE := rturn_put (.deferred none) (Turn.of_below (fun _ => False) H.out.1.bel) (D := D) (by omega)
    exact rfin_m (v := .slice none 0 0) H.out.2 (by simp [results, Try.results11, go_sem]) ⟨rfl, hE.below (Nat.le_refl _) (fun _ h => h.elim)⟩

set_option maxRecDepth 100000 in
set_option maxHeartbeats 4000000 in
theorem refsNone_walk (s : ByteArray) (i : Int) (w : World) :
    Calls Try.prog 3 #[.string s, .int .u64 i] w fun e w' => e = .returned (.bool true) ∧ Below w.heap.size w w' := by
  refine (callsIn_wide (n := 5)).1 ?_
  refine callsIn_of_wp_marks Try.func3 rfl trivial ?_ rfl
  simp only [Try.ntmps3, List.size_toArray, List.length_cons, List.length_nil, Nat.reduceAdd, Nat.reduceSub, Array.replicate_succ, Array.replicate_zero, List.push_toArray, List.append_toArray, List.nil_append, List.cons_append]
  have hmx : Try.prog.follows .mixedOrders = true := by kernel_rfl
  refine wpIn_wide.2 ?_
  have B0 : Below w.heap.size w (w.alloc (.cells #[.bool false] 4)) := (Below.refl _ w).alloc (Nat.le_refl _) _
  have bR0 : Boxed (w.alloc (.cells #[.bool false] 4)) w.heap.size 4 (.bool false) := Boxed.new w _ _
  have hwk := rwakes_any (w.alloc (.cells #[.bool false] 4))
  go_wp2_with first
    | (go_at_call 6; refine hwk.mono ?_; clear hwk; rintro e w1 ⟨rfl, B1⟩; have C1 : Hid (CstR w w1) := (CstR.mk B0 bR0).below B1; clear B1 bR0 B0)
    | (go_at_call 7; refine (ropen_nil _).mono ?_; rintro e w2 ⟨rfl, B2⟩; have C2 : Hid (CstR w w2) := C1.out.below B2; clear B2)
    | (go_at_call 8; refine (rset_nil _ _).mono ?_; rintro e w3 ⟨rfl, h3⟩; subst h3)
    | (go_at_call 9; refine (rget_nil _ _).mono ?_; rintro e w4 ⟨rfl, h4⟩; subst h4)
    | (go_at_call 10; refine (all_any _ _).mono ?_; rintro e w8 ⟨rfl, h8⟩; subst h8)
  obtain ⟨wz, hwz⟩ : ∃ wz, wz = (w2.alloc (.cells #[.string s, .int .u64 i] 31)).alloc (.cells #[.pointer none] 25) := ⟨_, rfl⟩
  have Cz : CstR w wz := by rw [hwz]; exact (C2.out.alloc _).alloc _
  have bB : Boxed wz (w2.heap.size + 1) 25 (.pointer none) := by
    have := Boxed.new (w2.alloc (.cells #[.string s, .int .u64 i] 31)) 25 (.pointer none)
    rw [World.size_alloc] at this
    rw [hwz]; exact this
  have hzs : wz.heap.size = w2.heap.size + 2 := by rw [hwz]; simp
  have hz7 := C2.out.box.lt
  rw [← hwz]
  clear hwz C2 C1
  refine (wpIn_wide (n := 5)).1 ?_
  refine range_told (α := Ch) (w := wz) rfl (by omega) (gf := 29) (lb := #[.pointer (some ⟨w2.heap.size + 1, 0, none⟩)]) rfl trivial (enters_of Try.func29 (by kernel_rfl) rfl)
    (all_nil wz (w2.heap.size + 1) bB.cell 4 (fun _ => False)) (fun _ => rfl) (fun k hk => hk.elim)
    (fun _ W => CstR w W) (cstR_own w (by omega)) (fun _ _ _ _ _ _ h _ _ => h) Cz ?act ?assign ?body ?done
  case assign =>
    intro l x W K hK
    gi_wp2
    exact hK
  case body => exact fun l pre x W _ _ h => h.elim
  case done =>
    rintro D xs W hD hxs hC hK
    have H : Hid (CstR w W ∧ W.heap[D]? = some (.deferred (some []))) := ⟨hC, hK⟩
    clear hC hK
    go_wp2_with first
      | (go_at_call 11; refine (under_nil _ _).mono ?_; rintro e wa ⟨rfl, Ba⟩; have Ca : Hid (CstR w wa ∧ wa.heap[D]? = some (.deferred (some [])) ∧ D ≠ w.heap.size) := ⟨H.out.1.below Ba, (Ba.block _ (Array.getElem?_eq_some_iff.1 H.out.2).1).trans H.out.2, by omega⟩; clear Ba)
      | (go_at_call 12; refine (rlen_nil _).mono ?_; rintro e wb ⟨rfl, hb⟩; have hb2 := hb.symm; clear hb; subst hb2)
      | (go_at_call 6; refine (rwakes_any _).mono ?_; rintro e wc ⟨rfl, Bc⟩; have Cc : Hid (CstR w wc ∧ wc.heap[D]? = some (.deferred (some [])) ∧ D ≠ w.heap.size) := ⟨Ca.out.1.below Bc, (Bc.block _ (Array.getElem?_eq_some_iff.1 Ca.out.2.1).1).trans Ca.out.2.1, Ca.out.2.2⟩; have bC := Ca.out.1.below Bc; have cC := bC.box.cell; have fC := bC.box.frozen; clear Bc bC)
    obtain ⟨hC, hK, hDn⟩ := Cc.out
    have b2 := hC.box.set (.bool true)
    have hK2 : (wc.setCell ⟨w.heap.size, 0, none⟩ (.bool true)).heap[D]? = some (.deferred (some [])) := by
      rw [Below.heap_setCell _ _ _ _ (by exact hDn)]; exact hK
    have k1 := (b2.kept (grownBy_putObj' _ D (.deferred none)) (by simp; omega)).cell
    have hB2 : Below w.heap.size w (wc.setCell ⟨w.heap.size, 0, none⟩ (.bool true)) := hC.bel.setCell (p := ⟨w.heap.size, 0, none⟩) (Nat.le_refl _) _
    have hE := rturn_put (.deferred none) (Turn.of_below (fun _ => False) hB2) (D := D) (by omega)
    exact rfin_m (v := .bool true) hK2 (by simp [results, Try.results3, go_sem, k1]) ⟨rfl, hE.below (Nat.le_refl _) (fun _ h => h.elim)⟩
end Go.Proofs.Ytiafhbpklddlnaa
