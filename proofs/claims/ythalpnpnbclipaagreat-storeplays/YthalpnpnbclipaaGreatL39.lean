import Derived.Test.YthalpnpnbclipaaGreatL37
import Derived.Test.YthalpnpnbclipaaGreatL38
import Derived.Test.YthalpnpnbclipaaGreatL34
/- The walk of law 07's holds: a store has just these rows, in their order. -/
namespace Go.Proofs.YthalpnpnbclipaaGreat
open Go.RowKit Go.Shelf Go.Maps

attribute [local go_sem] Oper.semAt_some

/-- the boxes of holds: the store's, the rows', the result's -/
structure HC (w : World) (s : Nat) (ia ra : Option Addr) (n ic rcp : Nat) (W : World) : Prop where
  bel : Below w.heap.size w W
  bs : Boxed W w.heap.size 28 (.pointer (some ⟨s, 0, none⟩))
  c0 : W.cell? ⟨w.heap.size + 1, 0, none⟩ = some (.slice ia n ic)
  c1 : W.cell? ⟨w.heap.size + 1, 1, none⟩ = some (.slice ra n rcp)
  br : Boxed W (w.heap.size + 2) 4 (.bool false)
theorem HC.turn {w : World} {s : Nat} {ia ra : Option Addr} {n ic rcp : Nat} {W W' : World} {Q : Nat → Prop} (h : HC w s ia ra n ic rcp W) (hT : Turn Q W W') (hQ : ∀ k, Q k → w.heap.size + 3 ≤ k) : HC w s ia ra n ic rcp W' := by
  have hl := h.br.lt
  exact ⟨h.bel.trans (hT.below h.bel.size (fun k hk => by have := hQ k hk; omega)), (hT.block _ h.bs.lt (fun e => by have := hQ _ e; omega)).trans h.bs, hT.cell h.c0 (fun e => by have := hQ _ e; simp only at this; omega), hT.cell h.c1 (fun e => by have := hQ _ e; simp only at this; omega), (hT.block _ hl (fun e => by have := hQ _ e; omega)).trans h.br⟩
theorem HC.below {w : World} {s : Nat} {ia ra : Option Addr} {n ic rcp : Nat} {W W' : World} (h : HC w s ia ra n ic rcp W) (hB : Below W.heap.size W W') : HC w s ia ra n ic rcp W' := h.turn (Turn.of_below (fun _ => False) hB) (fun _ h => h.elim)
theorem HC.new (w : World) (s : Nat) (ia ra : Option Addr) (n ic rcp : Nat) : HC w s ia ra n ic rcp (((w.alloc (.cells #[.pointer (some ⟨s, 0, none⟩)] 28)).alloc (.cells #[.slice ia n ic, .slice ra n rcp] 35)).alloc (.cells #[.bool false] 4)) := by
  obtain ⟨w1, h1⟩ : ∃ w1, w1 = w.alloc (.cells #[.pointer (some ⟨s, 0, none⟩)] 28) := ⟨_, rfl⟩
  obtain ⟨w2, h2⟩ : ∃ w2, w2 = w1.alloc (.cells #[.slice ia n ic, .slice ra n rcp] 35) := ⟨_, rfl⟩
  have s1 : w1.heap.size = w.heap.size + 1 := by rw [h1]; simp
  have s2 : w2.heap.size = w.heap.size + 2 := by rw [h2]; simp [s1]
  have b1 : Boxed w1 w.heap.size 28 (.pointer (some ⟨s, 0, none⟩)) := by rw [h1]; exact Boxed.new _ _ _
  have hh := two_cells (W := w2) (n := w.heap.size + 1) (a := .slice ia n ic) (b := .slice ra n rcp) (t := 35) (by rw [h2, ← s1]; exact World.alloc_heap_new _ _)
  have b3 : Boxed (w2.alloc (.cells #[.bool false] 4)) (w.heap.size + 2) 4 (.bool false) := by rw [← s2]; exact Boxed.new _ _ _
  have B3 : Below w2.heap.size w2 (w2.alloc (.cells #[.bool false] 4)) := (Below.refl _ _).alloc (Nat.le_refl _) _
  rw [← h1, ← h2]
  refine ⟨?_, ?_, (B3.cell (p := ⟨w.heap.size + 1, 0, none⟩) (by simp only; omega)).trans hh.1, (B3.cell (p := ⟨w.heap.size + 1, 1, none⟩) (by simp only; omega)).trans hh.2, b3⟩
  · rw [h2, h1]; exact (((Below.refl _ w).alloc (Nat.le_refl _) _).alloc (by simp) _).alloc (by simp only [World.size_alloc]; omega) _
  · refine Boxed.alloc ?_ _
    rw [h2]; exact b1.alloc _

theorem box_below {W W' : World} {b : Nat} {t : TypeId} {v : Value} (h : Boxed W b t v) (hB : Below W.heap.size W W') : Boxed W' b t v := (hB.block _ h.lt).trans h
theorem find_at : ∀ {os : List Ob} {k : Nat} {o : Ob}, (oids os).Nodup → os[k]? = some o → findO os (oid o) = some o
  | [], k, o, _, h => by simp at h
  | y :: r, 0, o, _, h => by
    simp at h; subst h
    simp [findO]
  | y :: r, k + 1, o, hn, h => by
    simp only [List.getElem?_cons_succ] at h
    simp only [oids, List.map_cons, List.nodup_cons] at hn
    have hne : (oid y == oid o) = false := beq_eq_false_iff_ne.2 (fun e => hn.1 (by rw [e]; exact List.mem_map.2 ⟨o, List.mem_of_getElem? h, rfl⟩))
    have := find_at (os := r) hn.2 h
    unfold findO at this ⊢
    rw [List.find?_cons, hne]
    exact this

set_option maxRecDepth 100000 in
set_option maxHeartbeats 4000000 in
theorem holds_any (w : World) (s d : Nat) (os : List Ob) (sz : Nat) (cut : Bool) (F : Nat → Prop) (h : IsSt w s d os sz cut F) (hp : Pure os) (he : ∀ o ∈ os, obErr o = 0) (X : Nat → Prop) (ia ra : Option Addr) (n ic rcp : Nat) (hm : RM X w ia ra n (oids os) (os.map obB)) (hn : os.length ≤ 1000) :
    Calls Tryz.prog 17 #[.pointer (some ⟨s, 0, none⟩), .agg #[.slice ia n ic, .slice ra n rcp]] w fun e w' => e = .returned (.bool true) ∧ Below w.heap.size w w' := by
  refine (callsIn_wide (n := 5)).1 ?_
  refine callsIn_of_wp_marks Tryz.func17 rfl trivial ?_ rfl
  simp only [Tryz.ntmps17, List.size_toArray, List.length_cons, List.length_nil, Nat.reduceAdd, Nat.reduceSub, Array.replicate_succ, Array.replicate_zero, List.push_toArray, List.append_toArray, List.nil_append, List.cons_append]
  have hmx : Tryz.prog.follows .mixedOrders = true := by kernel_rfl
  refine wpIn_wide.2 ?_
  have hlen := fun W (h : IsSt W s d os sz cut F) => slen_any W s d os sz cut F h
  go_wp2_with fail
  have hc0 := HC.new w s ia ra n ic rcp
  obtain ⟨w0, hw0⟩ : ∃ w0, w0 = (((w.alloc (.cells #[.pointer (some ⟨s, 0, none⟩)] 28)).alloc (.cells #[.slice ia n ic, .slice ra n rcp] 35)).alloc (.cells #[.bool false] 4)) := ⟨_, rfl⟩
  have hs0 : w0.heap.size = w.heap.size + 3 := by rw [hw0]; simp
  rw [← hw0] at hc0 ⊢
  clear hw0
  have hnO : n = os.length := by have := hm.1; simpa [oids] using this.symm
  have HC0 : Hid (HC w s ia ra n ic rcp w0 ∧ IsSt w0 s d os sz cut F ∧ RM X w0 ia ra n (oids os) (os.map obB) ∧ n = os.length) := ⟨hc0, h.below (hc0.bel), hm.below hc0.bel, hnO⟩
  have q0 := hc0.bs.cell
  have q1 := hc0.c0
  have q2 := hc0.c1
  have hlw := hlen w0.drew (HC0.out.2.1.below ⟨rfl, rfl, rfl, Nat.le_refl _, fun _ _ => rfl⟩)
  rw [← hnO] at hlw
  clear hc0 h hm hlen hnO
  go_region_held3 (fun W => W.cell? ⟨w.heap.size, 0, none⟩ = some (.pointer (some ⟨s, 0, none⟩)) ∧ W.cell? ⟨w.heap.size + 1, 0, none⟩ = some (.slice ia n ic))
    (first | (go_split_ands; go_keep) | exact ⟨q0, q1⟩)
    (first | (go_at_call 27; refine hlw.mono ?_; clear hlw; rintro e w3 ⟨rfl, h3⟩; subst h3))
  clear q0 q1 q2
  have HC1 : Hid (HC w s ia ra n ic rcp w0.drew ∧ IsSt w0.drew s d os sz cut F ∧ RM X w0.drew ia ra n (oids os) (os.map obB)) := by
    have hb : Below w0.heap.size w0 w0.drew := ⟨rfl, rfl, rfl, Nat.le_refl _, fun _ _ => rfl⟩
    exact ⟨HC0.out.1.below hb, HC0.out.2.1.below hb, HC0.out.2.2.1.below hb⟩
  have hs1 : w0.drew.heap.size = w.heap.size + 3 := hs0
  have HN : Hid (n = os.length) := HC0.out.2.2.2
  generalize w0.drew = w1 at *
  clear HC0 hs0
  have q0 := HC1.out.1.bs.cell
  have HS1 : Hid (w1.heap.size = w.heap.size + 3) := hs1
  have hlt1 : w.heap.size < w1.heap.size := by omega
  clear hs1
  go_wp2_with (go_at_call 26; refine (since_any _ _ _).mono ?_; rintro e w8 ⟨rfl, h8⟩; subst h8)
  have hs1 := HS1.out
  obtain ⟨wy, hwy⟩ : ∃ wy, wy = ((w1.alloc (.cells #[.int .i64 0] 3)).alloc (.cells #[.pointer (some ⟨s, 0, none⟩)] 28)).alloc (.cells #[.int .i64 0] 3) := ⟨_, rfl⟩
  have hBy : Below w1.heap.size w1 wy := by rw [hwy]; exact (((Below.refl _ w1).alloc (Nat.le_refl _) _).alloc (by simp) _).alloc (by simp only [World.size_alloc]; omega) _
  have hsy : wy.heap.size = w1.heap.size + 3 := by rw [hwy]; simp
  have bC : Boxed wy w1.heap.size 3 (.int .i64 0) := by rw [hwy]; exact ((Boxed.new w1 _ _).alloc _).alloc _
  have bS : Boxed wy (w1.heap.size + 1) 28 (.pointer (some ⟨s, 0, none⟩)) := by
    have := (Boxed.new (w1.alloc (.cells #[.int .i64 0] 3)) 28 (.pointer (some ⟨s, 0, none⟩))).alloc (.cells #[.int .i64 0] 3)
    rw [World.size_alloc] at this
    rw [hwy]; exact this
  have bN : Boxed wy (w1.heap.size + 1 + 1) 3 (.int .i64 0) := by
    have := Boxed.new ((w1.alloc (.cells #[.int .i64 0] 3)).alloc (.cells #[.pointer (some ⟨s, 0, none⟩)] 28)) 3 (.int .i64 0)
    rw [World.size_alloc, World.size_alloc] at this
    rw [hwy]; exact this
  obtain ⟨j, mb, M, vv, FJ, O, hSt⟩ := HC1.out.2.1
  have hFlt : ∀ k, F k → k < w1.heap.size := hSt.lt
  have hst := since_tells wy s d j mb M vv _ _ _ _ FJ O F (hSt.below hBy) (w1.heap.size + 1) (w1.heap.size + 1 + 1) bS.cell 0 bN.cell (by omega) 4 (by omega)
  rw [show firstN 0 os.length = 0 from rfl, List.drop_zero] at hst
  have HY : Hid (∀ W, Turn (fun k => k = w1.heap.size) wy W → HC w s ia ra n ic rcp W ∧ IsSt W s d os sz cut F ∧ RM X W ia ra n (oids os) (os.map obB)) := fun W hT => by
    obtain ⟨h1, h2, h3⟩ := HC1.out
    refine ⟨(h1.below hBy).turn hT (fun k e => by omega), (h2.below hBy).turn hT (fun k hk e => by have := hFlt k hk; omega), (h3.below hBy).turn hT (fun k hk e => by have := h3.lt k hk; omega)⟩
  rw [← hwy]
  clear hwy hSt q0 hs1
  refine (wpIn_wide (n := 5)).1 ?_
  refine range_told (α := Int) (w := wy) rfl (by omega) (gf := 61) (lb := #[.pointer (some ⟨w1.heap.size + 1, 0, none⟩), .pointer (some ⟨w1.heap.size + 1 + 1, 0, none⟩)]) rfl trivial (enters_of Tryz.func61 (by kernel_rfl) rfl)
    hst (fun _ => rfl) (fun k hk => by have := hFlt k hk; omega)
    (CntI w1.heap.size wy) (cntI_own _ _ (by rw [hsy]; omega)) (fun _ _ _ _ _ _ h _ _ => h) ⟨bC, Turn.refl _ _⟩ ?act ?assign ?body ?done
  case assign =>
    intro l x W K hK
    gi_wp2
    exact hK
  case body =>
    rintro l pre x W hl ⟨bv, hT⟩ hx
    obtain ⟨hC, hS, hR⟩ := HY.out W hT
    have cC := bv.cell
    have fC := bv.frozen
    obtain ⟨o, ho, rfl⟩ : ∃ o, os[pre.length]? = some o ∧ oid o = x := by
      rw [oids, List.getElem?_map] at hx
      obtain ⟨o, h1, h2⟩ := Option.map_eq_some_iff.1 hx
      exact ⟨o, h1, h2⟩
    have hf : findO os (oid o) = some o := find_at hp.2 ho
    have hib := idOf_bounds (obB o)
    have hpl : pre.length < n := by rw [HN.out]; exact (List.getElem?_eq_some_iff.1 ho).1
    obtain ⟨E, hE⟩ := hR.all
    obtain ⟨hids, hrows⟩ := hE W (fun _ _ => rfl)
    obtain ⟨gi, oi, rfl, hci⟩ := hids.2 (by omega)
    have q1 := hci pre.length _ hx
    obtain ⟨gr, orr, rfl, q2, q3⟩ := hrows pre.length hpl
    have hrc : rc (os.map obB) pre.length = obB o := by
      unfold rc
      rw [List.getD_eq_getElem?_getD, List.getElem?_map, ho]; rfl
    rw [hrc] at q3
    have hs1 := HS1.out
    have q4 := hC.bs.cell
    have q5 := hC.c0
    have q6 := hC.c1
    generalize E pre.length = ek at q2 q3
    obtain ⟨ex, em, ec, el⟩ := ek
    simp only at q2 q3
    have HW : Hid (Boxed W w1.heap.size 3 (.int .i64 (pre.length : Int)) ∧ Turn (fun k => k = w1.heap.size) wy W ∧ HC w s (some ⟨gi, oi, none⟩) (some ⟨gr, orr, none⟩) n ic rcp W ∧ IsSt W s d os sz cut F ∧ W.cell? ⟨gr, orr + pre.length, none⟩ = some (.slice ex em ec) ∧ Bytes W ex em (obB o)) := ⟨bv, hT, hC, hS, q2, q3⟩
    have HSB : Hid (∀ W', Below W.heap.size W W' → Calls Tryz.prog 25 #[.pointer (some ⟨s, 0, none⟩), .int .u64 (oid o)] W' fun e w' => ∃ ad cp, e = .returned (.tuple #[.slice ad (obB o).length cp, .int .i64 0]) ∧ Bytes w' ad (obB o).length (obB o) ∧ Below W'.heap.size W' w') := fun W' hB => sbytes_there W' s d os sz cut F (hS.below hB) (oid o) hib.1 hib.2 o hf
    have HGT : Hid (∀ W', Below W.heap.size W W' → Calls Tryz.prog 14 #[.pointer (some ⟨s, 0, none⟩), .int .u64 (oid o)] W' fun e w' => ∃ u, e = .returned (.tuple #[u, .int .i64 0]) ∧ Held (Fresh W'.heap.size w') o u w' ∧ Below W'.heap.size W' w') := fun W' hB => get_there W' s d os sz cut F (hS.below hB) (oid o) hib.1 hib.2 o hf
    have HHS : Hid (∀ W', Below W.heap.size W W' → Calls Tryz.prog 16 #[.pointer (some ⟨s, 0, none⟩), .int .u64 (oid o)] W' fun e w' => e = .returned (.bool true) ∧ w' = W') := fun W' hB => by
      have := has_any W' s d os sz cut F (hS.below hB) (oid o) hib.1 hib.2
      rw [hf] at this; exact this
    have HKD : Hid (∀ W', Below W.heap.size W W' → Calls Tryz.prog 44 #[.pointer (some ⟨s, 0, none⟩), .int .u64 (oid o), .int .i64 (obK o)] W' fun e w' => e = .returned (.bool true) ∧ Below W'.heap.size W' w') := fun W' hB => skind_any W' s d os sz cut F (hS.below hB) (oid o) hib.1 hib.2 o hf
    have HOB : Hid (obErr o = 0 ∧ em = (obB o).length) := ⟨he o (List.mem_of_getElem? ho), q3.1.symm⟩
    have HPL : Hid (∀ PL, PL = pre.length → True) := fun _ _ => trivial
    obtain ⟨PL, hPL⟩ : ∃ PL, PL = pre.length := ⟨_, rfl⟩
    rw [← hPL] at HW cC q1 q2 hpl
    have HP : Hid (PL = pre.length) := hPL
    obtain ⟨oi', hoi⟩ : ∃ oi', oi' = oid o := ⟨_, rfl⟩
    rw [← hoi] at HSB HGT HHS HKD q1 ⊢
    obtain ⟨NB, hNB⟩ : ∃ NB, NB = (obB o).length := ⟨_, rfl⟩
    rw [← hNB] at HSB HOB
    have HNB : Hid (NB = (obB o).length) := hNB
    have i1 : (PL : Int) < (n : Int) := by omega
    have i2 : ¬ n ≤ PL := by omega
    have hlW : w.heap.size + 3 < W.heap.size := by have := bv.lt; omega
    clear hx hib hf hci hrows hrc hR hids hE hC hS hT bv ho hPL hoi hNB hst bC bS bN q3 hs1 HPL
    gi_wp2_with first
      | (refine ⟨trivial, ?_⟩; gi_at_call 25; refine (callsIn_wide.2 (HSB.out W (Below.refl _ _))).mono ?_; clear HSB; rintro e W1 ⟨ba, bc, rfl, hb1, hB1⟩; have q41 := (hB1.cell (p := ⟨w.heap.size, 0, none⟩) (by simp only; omega)).trans q4; have H1 : Hid (Below W.heap.size W W1 ∧ Bytes W1 ba NB (obB o)) := ⟨hB1, hb1⟩; clear hb1 hB1)
      | (refine ⟨trivial, ?_⟩; gi_at_call 14; refine (callsIn_wide.2 (HGT.out W1 H1.out.1)).mono ?_; clear HGT; rintro e W2 ⟨u, rfl, hh2, hB2⟩; have H2 : Hid (Below W.heap.size W W2 ∧ Bytes W2 ba NB (obB o) ∧ ObS o u W2) := ⟨H1.out.1.trans (hB2.mono H1.out.1.size), (Turn.of_below (fun _ => False) hB2).bytes H1.out.2 (fun _ _ _ => id), hh2.get⟩; clear hh2 hB2)
    have HF : Hid (∀ Y : World, Below W2.heap.size W2 Y → Y.cell? ⟨w.heap.size, 0, none⟩ = some (.pointer (some ⟨s, 0, none⟩)) ∧ Y.cell? ⟨w.heap.size + 1, 1, none⟩ = some (.slice (some ⟨gr, orr, none⟩) n rcp) ∧ Y.cell? ⟨w1.heap.size, 0, none⟩ = some (.int .i64 (PL : Int)) ∧ Y.cell? ⟨gr, orr + PL, none⟩ = some (.slice ex em ec) ∧ (convert 36 9 (.slice ba NB bc)).run Tryz.prog Y = .ok (.string ⟨(obB o).toArray⟩) Y ∧ (convert 36 9 (.slice ex em ec)).run Tryz.prog Y = .ok (.string ⟨(obB o).toArray⟩) Y) := fun Y hY => by
      have hb : Below W.heap.size W Y := H2.out.1.trans (hY.mono H2.out.1.size)
      have hw1 : w1.heap.size < W.heap.size := by have := HS1.out; omega
      have hT := Turn.of_below (fun _ => False) hb
      exact ⟨(hb.cell (p := ⟨w.heap.size, 0, none⟩) (by simp only; omega)).trans q4, (hb.cell (p := ⟨w.heap.size + 1, 1, none⟩) (by simp only; omega)).trans q6, (hb.cell (p := ⟨w1.heap.size, 0, none⟩) hw1).trans cC, (hb.cell (p := ⟨gr, orr + PL, none⟩) (World.block_lt_of_cell? W _ q2)).trans q2, run_string Y ba NB bc (obB o) ((Turn.of_below (fun _ => False) hY).bytes H2.out.2.1 (fun _ _ _ => id)), run_string Y ex em ec (obB o) (hT.bytes HW.out.2.2.2.2.2 (fun _ _ _ => id))⟩
    refine region_held_round (S := fun Y => Below W2.heap.size W2 Y) hmx (by kernel_rfl) (fun ⟨_, _, h⟩ => by cases h.1) ⟨rfl, rfl, rfl, Nat.le_refl _, fun _ _ => rfl⟩ (fun hHeld => ?_)
    -- REGION
    refine wpAnyH_take (i := 0) (v := ?_) rfl (by kernel_rfl) (by kernel_rfl) (by kernel_rfl) (fun _ _ _ h => h) (Or.inl ⟨by rfl, ?_⟩) (by assumption) ?_
    rotate_left
    · intro X hX; obtain ⟨f1, f2, f3, f4, f5, f6⟩ := HF.out X hX; go_simp; try with_reducible rfl
    simp only [Act.put, List.getElem_toArray, List.getElem_cons_zero, List.setIfInBounds_toArray, List.set_cons_zero, List.set_cons_succ]
    refine wpAnyH_take (i := 1) (v := ?_) rfl (by kernel_rfl) (by kernel_rfl) (by kernel_rfl) (fun _ _ _ h => h) (Or.inl ⟨by rfl, ?_⟩) (by assumption) ?_
    rotate_left
    · intro X hX; obtain ⟨f1, f2, f3, f4, f5, f6⟩ := HF.out X hX; go_simp; try with_reducible rfl
    simp only [Act.put, List.getElem_toArray, List.getElem_cons_zero, List.getElem_cons_succ, List.setIfInBounds_toArray, List.set_cons_zero, List.set_cons_succ]
    refine wpAnyH_take (i := 2) (v := ?_) rfl (by kernel_rfl) (by kernel_rfl) (by kernel_rfl) (fun _ _ _ h => h) (Or.inl ⟨by rfl, ?_⟩) (by assumption) ?_
    rotate_left
    · intro X hX; obtain ⟨f1, f2, f3, f4, f5, f6⟩ := HF.out X hX; go_simp; try with_reducible rfl
    simp only [Act.put, List.getElem_toArray, List.getElem_cons_zero, List.getElem_cons_succ, List.setIfInBounds_toArray, List.set_cons_zero, List.set_cons_succ]
    refine wpAnyH_take (i := 3) (v := ?_) rfl (by kernel_rfl) (by kernel_rfl) (by kernel_rfl) (fun _ _ _ h => h) (Or.inl ⟨by rfl, ?_⟩) (by assumption) ?_
    rotate_left
    · intro X hX; obtain ⟨f1, f2, f3, f4, f5, f6⟩ := HF.out X hX; go_simp; try with_reducible rfl
    simp only [Act.put, List.getElem_toArray, List.getElem_cons_zero, List.getElem_cons_succ, List.setIfInBounds_toArray, List.set_cons_zero, List.set_cons_succ]
    refine wpAnyH_take (i := 4) (v := ?_) rfl (by kernel_rfl) (by kernel_rfl) (by kernel_rfl) (fun _ _ _ h => h) (Or.inl ⟨by rfl, ?_⟩) (by assumption) ?_
    rotate_left
    · intro X hX; obtain ⟨f1, f2, f3, f4, f5, f6⟩ := HF.out X hX; go_simp; try with_reducible rfl
    simp only [Act.put, List.getElem_toArray, List.getElem_cons_zero, List.getElem_cons_succ, List.setIfInBounds_toArray, List.set_cons_zero, List.set_cons_succ]
    refine wpAnyH_take (i := 5) (v := ?_) rfl (by kernel_rfl) (by kernel_rfl) (by kernel_rfl) (fun _ _ _ h => h) (Or.inl ⟨by rfl, ?_⟩) (by assumption) ?_
    rotate_left
    · intro X hX; obtain ⟨f1, f2, f3, f4, f5, f6⟩ := HF.out X hX; go_simp; try with_reducible rfl
    simp only [Act.put, List.getElem_toArray, List.getElem_cons_zero, List.getElem_cons_succ, List.setIfInBounds_toArray, List.set_cons_zero, List.set_cons_succ]
    refine wpAnyH_take (i := 6) (v := ?_) rfl (by kernel_rfl) (by kernel_rfl) (by kernel_rfl) (fun _ _ _ h => h) (Or.inl ⟨by rfl, ?_⟩) (by assumption) ?_
    rotate_left
    · intro X hX; obtain ⟨f1, f2, f3, f4, f5, f6⟩ := HF.out X hX; go_simp; try with_reducible rfl
    simp only [Act.put, List.getElem_toArray, List.getElem_cons_zero, List.getElem_cons_succ, List.setIfInBounds_toArray, List.set_cons_zero, List.set_cons_succ]
    refine wpAnyH_take (i := 7) (v := ?_) rfl (by kernel_rfl) (by kernel_rfl) (by kernel_rfl) (fun _ _ _ h => h) (Or.inl ⟨by rfl, ?_⟩) (by assumption) ?_
    rotate_left
    · intro X hX; obtain ⟨f1, f2, f3, f4, f5, f6⟩ := HF.out X hX; go_simp; try with_reducible rfl
    simp only [Act.put, List.getElem_toArray, List.getElem_cons_zero, List.getElem_cons_succ, List.setIfInBounds_toArray, List.set_cons_zero, List.set_cons_succ]
    refine wpAnyH_take (i := 8) (v := ?_) rfl (by kernel_rfl) (by kernel_rfl) (by kernel_rfl) (fun _ _ _ h => h) (Or.inl ⟨by rfl, ?_⟩) (by assumption) ?_
    rotate_left
    · intro X hX; obtain ⟨f1, f2, f3, f4, f5, f6⟩ := HF.out X hX; go_simp; try with_reducible rfl
    simp only [Act.put, List.getElem_toArray, List.getElem_cons_zero, List.getElem_cons_succ, List.setIfInBounds_toArray, List.set_cons_zero, List.set_cons_succ]
    refine wpAnyH_take (i := 9) (v := ?_) rfl (by kernel_rfl) (by kernel_rfl) (by kernel_rfl) (fun _ _ _ h => h) (Or.inl ⟨by rfl, ?_⟩) (by assumption) ?_
    rotate_left
    · intro X hX; obtain ⟨f1, f2, f3, f4, f5, f6⟩ := HF.out X hX; go_simp; try with_reducible rfl
    simp only [Act.put, List.getElem_toArray, List.getElem_cons_zero, List.getElem_cons_succ, List.setIfInBounds_toArray, List.set_cons_zero, List.set_cons_succ]
    refine wpAnyH_take (i := 10) (v := ?_) rfl (by kernel_rfl) (by kernel_rfl) (by kernel_rfl) (fun _ _ _ h => h) (Or.inl ⟨by rfl, ?_⟩) (by assumption) ?_
    rotate_left
    · intro X hX; obtain ⟨f1, f2, f3, f4, f5, f6⟩ := HF.out X hX; go_simp; try with_reducible rfl
    simp only [Act.put, List.getElem_toArray, List.getElem_cons_zero, List.getElem_cons_succ, List.setIfInBounds_toArray, List.set_cons_zero, List.set_cons_succ]
    refine wpAnyH_take (i := 11) (v := ?_) rfl (by kernel_rfl) (by kernel_rfl) (by kernel_rfl) (fun _ _ _ h => h) (Or.inl ⟨by rfl, ?_⟩) (by assumption) ?_
    rotate_left
    · intro X hX; obtain ⟨f1, f2, f3, f4, f5, f6⟩ := HF.out X hX; go_simp; try with_reducible rfl
    simp only [Act.put, List.getElem_toArray, List.getElem_cons_zero, List.getElem_cons_succ, List.setIfInBounds_toArray, List.set_cons_zero, List.set_cons_succ]
    refine wpAnyH_take (i := 12) (v := ?_) rfl (by kernel_rfl) (by kernel_rfl) (by kernel_rfl) (fun _ _ _ h => h) (Or.inl ⟨by rfl, ?_⟩) (by assumption) ?_
    rotate_left
    · intro X hX; obtain ⟨f1, f2, f3, f4, f5, f6⟩ := HF.out X hX; go_simp; try with_reducible rfl
    simp only [Act.put, List.getElem_toArray, List.getElem_cons_zero, List.getElem_cons_succ, List.setIfInBounds_toArray, List.set_cons_zero, List.set_cons_succ]
    refine wpAnyH_take (i := 13) (v := ?_) rfl (by kernel_rfl) (by kernel_rfl) (by kernel_rfl) (fun _ _ _ h => h) (Or.inl ⟨by rfl, ?_⟩) (by assumption) ?_
    rotate_left
    · intro X hX; obtain ⟨f1, f2, f3, f4, f5, f6⟩ := HF.out X hX; go_simp; try with_reducible rfl
    simp only [Act.put, List.getElem_toArray, List.getElem_cons_zero, List.getElem_cons_succ, List.setIfInBounds_toArray, List.set_cons_zero, List.set_cons_succ]
    refine wpAnyH_take (i := 14) (v := ?_) rfl (by kernel_rfl) (by kernel_rfl) (by kernel_rfl) (fun _ _ _ h => h) (Or.inl ⟨by rfl, ?_⟩) (by assumption) ?_
    rotate_left
    · intro X hX; obtain ⟨f1, f2, f3, f4, f5, f6⟩ := HF.out X hX; go_simp; try with_reducible rfl
    simp only [Act.put, List.getElem_toArray, List.getElem_cons_zero, List.getElem_cons_succ, List.setIfInBounds_toArray, List.set_cons_zero, List.set_cons_succ]
    refine wpAnyH_take (i := 15) (v := ?_) rfl (by kernel_rfl) (by kernel_rfl) (by kernel_rfl) (fun _ _ _ h => h) (Or.inl ⟨by rfl, ?_⟩) (by assumption) ?_
    rotate_left
    · intro X hX; obtain ⟨f1, f2, f3, f4, f5, f6⟩ := HF.out X hX; go_simp; try with_reducible rfl
    simp only [Act.put, List.getElem_toArray, List.getElem_cons_zero, List.getElem_cons_succ, List.setIfInBounds_toArray, List.set_cons_zero, List.set_cons_succ]
    refine wpAnyH_take (i := 16) (v := ?_) rfl (by kernel_rfl) (by kernel_rfl) (by kernel_rfl) (fun _ _ _ h => h) (Or.inl ⟨by rfl, ?_⟩) (by assumption) ?_
    rotate_left
    · intro X hX; obtain ⟨f1, f2, f3, f4, f5, f6⟩ := HF.out X hX; go_simp; try with_reducible rfl
    simp only [Act.put, List.getElem_toArray, List.getElem_cons_zero, List.getElem_cons_succ, List.setIfInBounds_toArray, List.set_cons_zero, List.set_cons_succ]
    refine wpAnyH_take (i := 17) (v := ?_) rfl (by kernel_rfl) (by kernel_rfl) (by kernel_rfl) (fun _ _ _ h => h) (Or.inl ⟨by rfl, ?_⟩) (by assumption) ?_
    rotate_left
    · intro X hX; obtain ⟨f1, f2, f3, f4, f5, f6⟩ := HF.out X hX; go_simp; try with_reducible rfl
    simp only [Act.put, List.getElem_toArray, List.getElem_cons_zero, List.getElem_cons_succ, List.setIfInBounds_toArray, List.set_cons_zero, List.set_cons_succ]
    refine wpAnyH_take (i := 18) (v := ?_) rfl (by kernel_rfl) (by kernel_rfl) (by kernel_rfl) (fun _ _ _ h => h) (Or.inl ⟨by rfl, ?_⟩) (by assumption) ?_
    rotate_left
    · intro X hX; obtain ⟨f1, f2, f3, f4, f5, f6⟩ := HF.out X hX; go_simp; try with_reducible rfl
    simp only [Act.put, List.getElem_toArray, List.getElem_cons_zero, List.getElem_cons_succ, List.setIfInBounds_toArray, List.set_cons_zero, List.set_cons_succ]
    refine wpAnyH_take (i := 19) (v := ?_) rfl (by kernel_rfl) (by kernel_rfl) (by kernel_rfl) (fun _ _ _ h => h) (Or.inl ⟨by rfl, ?_⟩) (by assumption) ?_
    rotate_left
    · intro X hX; obtain ⟨f1, f2, f3, f4, f5, f6⟩ := HF.out X hX; go_simp; try with_reducible rfl
    simp only [Act.put, List.getElem_toArray, List.getElem_cons_zero, List.getElem_cons_succ, List.setIfInBounds_toArray, List.set_cons_zero, List.set_cons_succ]
    refine wpAnyH_ready (rs := [20]) (by kernel_rfl) (by simp) ?_
    refine AllReadyH.cons rfl (fun K hK => ?_) AllReadyH.nil
    go_simp
    refine (HHS.out _ (H2.out.1.trans (hHeld.mono H2.out.1.size))).mono ?_
    rintro e W3 ⟨rfl, hw3⟩
    have hBh : Below W2.heap.size W2 W3 := by rw [hw3]; exact hHeld
    clear hw3
    refine hK.out _ _ hBh (fun _ => ?_)
    clear hK K hHeld
    refine wpAnyH_take (i := 21) (v := ?_) rfl (by kernel_rfl) (by kernel_rfl) (by kernel_rfl) (fun _ _ _ h => h) (Or.inl ⟨by rfl, ?_⟩) (by assumption) ?_
    rotate_left
    · intro X hX; obtain ⟨f1, f2, f3, f4, f5, f6⟩ := HF.out X hX; go_simp; try with_reducible rfl
    simp only [Act.put, List.getElem_toArray, List.getElem_cons_zero, List.getElem_cons_succ, List.setIfInBounds_toArray, List.set_cons_zero, List.set_cons_succ]
    refine wpAnyH_take (i := 22) (v := ?_) rfl (by kernel_rfl) (by kernel_rfl) (by kernel_rfl) (fun _ _ _ h => h) (Or.inl ⟨by rfl, ?_⟩) (by assumption) ?_
    rotate_left
    · intro X hX; obtain ⟨f1, f2, f3, f4, f5, f6⟩ := HF.out X hX; go_simp; try with_reducible rfl
    simp only [Act.put, List.getElem_toArray, List.getElem_cons_zero, List.getElem_cons_succ, List.setIfInBounds_toArray, List.set_cons_zero, List.set_cons_succ]
    refine wpAnyH_take (i := 23) (v := ?_) rfl (by kernel_rfl) (by kernel_rfl) (by kernel_rfl) (fun _ _ _ h => h) (Or.inl ⟨by rfl, ?_⟩) (by assumption) ?_
    rotate_left
    · intro X hX; obtain ⟨f1, f2, f3, f4, f5, f6⟩ := HF.out X hX; go_simp; try with_reducible rfl
    simp only [Act.put, List.getElem_toArray, List.getElem_cons_zero, List.getElem_cons_succ, List.setIfInBounds_toArray, List.set_cons_zero, List.set_cons_succ]
    refine wpAnyH_take (i := 24) (v := ?_) rfl (by kernel_rfl) (by kernel_rfl) (by kernel_rfl) (fun _ _ _ h => h) (Or.inl ⟨by rfl, ?_⟩) (by assumption) ?_
    rotate_left
    · intro X hX; obtain ⟨f1, f2, f3, f4, f5, f6⟩ := HF.out X hX; go_simp; try with_reducible rfl
    simp only [Act.put, List.getElem_toArray, List.getElem_cons_zero, List.getElem_cons_succ, List.setIfInBounds_toArray, List.set_cons_zero, List.set_cons_succ]
    refine wpAnyH_take (i := 25) (v := ?_) rfl (by kernel_rfl) (by kernel_rfl) (by kernel_rfl) (fun _ _ _ h => h) (Or.inl ⟨by rfl, ?_⟩) (by assumption) ?_
    rotate_left
    · intro X hX; obtain ⟨f1, f2, f3, f4, f5, f6⟩ := HF.out X hX; go_simp; try with_reducible rfl
    simp only [Act.put, List.getElem_toArray, List.getElem_cons_zero, List.getElem_cons_succ, List.setIfInBounds_toArray, List.set_cons_zero, List.set_cons_succ]
    refine wpAnyH_take (i := 26) (v := ?_) rfl (by kernel_rfl) (by kernel_rfl) (by kernel_rfl) (fun _ _ _ h => h) (Or.inl ⟨by rfl, ?_⟩) (by assumption) ?_
    rotate_left
    · intro X hX; obtain ⟨f1, f2, f3, f4, f5, f6⟩ := HF.out X hX; go_simp; try with_reducible rfl
    simp only [Act.put, List.getElem_toArray, List.getElem_cons_zero, List.getElem_cons_succ, List.setIfInBounds_toArray, List.set_cons_zero, List.set_cons_succ]
    refine wpAnyH_ready (rs := [27]) (by kernel_rfl) (by simp) ?_
    refine AllReadyH.cons rfl (fun K hK => ?_) AllReadyH.nil
    go_simp
    refine (Kind_ob W3 (H2.out.2.2.below hBh).1).mono ?_
    rintro e W4 ⟨rfl, hw4⟩
    have hBk : Below W2.heap.size W2 W4 := by rw [hw4]; exact hBh
    clear hw4
    refine hK.out _ _ hBk (fun _ => ?_)
    clear hK K hBh
    refine wpAnyH_ready (rs := [28]) (by kernel_rfl) (by simp) ?_
    refine AllReadyH.cons rfl (fun K hK => ?_) AllReadyH.nil
    go_simp
    refine (HKD.out W4 (H2.out.1.trans (hBk.mono H2.out.1.size))).mono ?_
    rintro e W5 ⟨rfl, hB5⟩
    have hB25 : Below W2.heap.size W2 W5 := hBk.trans (hB5.mono hBk.size)
    refine hK.out _ _ hB25 (fun _ => ?_)
    clear hK K hBk hB5
    refine wpAnyH_take (i := 29) (v := ?_) rfl (by kernel_rfl) (by kernel_rfl) (by kernel_rfl) (fun _ _ _ h => h) (Or.inl ⟨by rfl, ?_⟩) (by assumption) ?_
    rotate_left
    · intro X hX; obtain ⟨f1, f2, f3, f4, f5, f6⟩ := HF.out X hX; go_simp; try with_reducible rfl
    simp only [Act.put, List.getElem_toArray, List.getElem_cons_zero, List.getElem_cons_succ, List.setIfInBounds_toArray, List.set_cons_zero, List.set_cons_succ]
    refine wpAnyH_take (i := 30) (v := ?_) rfl (by kernel_rfl) (by kernel_rfl) (by kernel_rfl) (fun _ _ _ h => h) (Or.inl ⟨by rfl, ?_⟩) (by assumption) ?_
    rotate_left
    · intro X hX; obtain ⟨f1, f2, f3, f4, f5, f6⟩ := HF.out X hX; go_simp; try with_reducible rfl
    simp only [Act.put, List.getElem_toArray, List.getElem_cons_zero, List.getElem_cons_succ, List.setIfInBounds_toArray, List.set_cons_zero, List.set_cons_succ]
    refine wpAnyH_done (by kernel_rfl) ?_ _
    -- END REGION
    have hPL9 : PL < 1000 := by have := HN.out; omega
    have hen := Encode_ob W5 (H2.out.2.2.below hB25).1 HOB.out.1
    rw [← HNB.out] at hen
    have H5 : Hid (Below W2.heap.size W2 W5) := hB25
    clear hB25
    gi_wp2_with (refine ⟨trivial, ?_⟩; gi_at_call 35; refine (callsIn_wide.2 hen).mono ?_; clear hen; rintro e W6 ⟨ea, ecp, rfl, hb6, hB6⟩; have H6 : Hid (Below W2.heap.size W2 W6 ∧ Bytes W6 ea NB (obB o)) := ⟨H5.out.trans (hB6.mono H5.out.size), hb6⟩; have k1 := run_string W6 ea NB ecp (obB o) hb6; obtain ⟨_, _, k3, _, k2, _⟩ := HF.out W6 H6.out.1; have bx := box_below HW.out.1 (H2.out.1.trans (H6.out.1.mono H2.out.1.size)); have k4 := bx.frozen; clear hb6 hB6)
    obtain ⟨bv, hT, _⟩ := HW.out
    have hB26 : Below W.heap.size W W6 := H2.out.1.trans (H6.out.1.mono H2.out.1.size)
    have hT2 : Turn (fun k => k = w1.heap.size) W (W6.setCell ⟨w1.heap.size, 0, none⟩ (.int .i64 ((PL : Int) + 1))) := (Turn.of_below _ hB26).trans (turn_setCell W6 w1.heap.size 0 (.int .i64 ((PL : Int) + 1))) (fun _ _ e => e)
    refine ⟨keepsFrom_turn hT2 (fun q o hq hB _ => by omega), ⟨hT2.size, fun q hq => hT2.block q (by have := hFlt q hq; have := hT.size; omega) (by have := hFlt q hq; omega)⟩, ?_, hT.trans hT2 (fun _ _ e => e)⟩
    have hbs := (box_below bv hB26).set (.int .i64 ((PL : Int) + 1))
    rw [List.length_append, ← HP.out]
    exact hbs
    -- AFTER
  case done =>
    rintro D xs W hD hxs ⟨bv, hT⟩ hK
    obtain ⟨hC, hS, hR⟩ := HY.out W hT
    have hxl : xs.length = n := by rw [hxs, HN.out]; simp [oids]
    have cC := bv.cell
    rw [hxl] at cC
    have q5 := hC.c0
    have cR := hC.br.cell
    have fR := hC.br.frozen
    have H : Hid (HC w s ia ra n ic rcp W ∧ W.heap[D]? = some (.deferred (some [])) ∧ wy.heap.size ≤ D) := ⟨hC, hK, hD⟩
    clear hC hS hR bv hT hK hst bC bS bN
    go_wp2_with fail
    obtain ⟨hC, hK, hD⟩ := H.out
    have hs1 := HS1.out
    have b2 := hC.br.set (.bool true)
    have hK2 : (W.setCell ⟨w.heap.size + 2, 0, none⟩ (.bool true)).heap[D]? = some (.deferred (some [])) := (Below.heap_setCell _ _ _ _ (by show D ≠ w.heap.size + 2; omega)).trans hK
    have k1 := (b2.kept (grownBy_putObj' _ D (.deferred none)) (by simp; omega)).cell
    have hbel := hC.bel.setCell (p := ⟨w.heap.size + 2, 0, none⟩) (by simp) (.bool true)
    exact sfin_m (v := .bool true) hK2 (by simp [results, Tryz.results17, go_sem, k1]) ⟨rfl, ⟨hbel.os, hbel.tape, hbel.output, by simpa using hbel.size, fun q hq => (World.putObj_heap_other (by omega)).trans (hbel.block q hq)⟩⟩
end Go.Proofs.YthalpnpnbclipaaGreat
