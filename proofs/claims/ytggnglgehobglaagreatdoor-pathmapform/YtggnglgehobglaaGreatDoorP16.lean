import Derived.Test.YtggnglgehobglaaGreatDoorP15
/- The walks of agree, of slices.ContainsFunc over the closures of beside, and of beside (genbeside.py). -/
namespace Go.Proofs.YtggnglgehobglaaGreatDoor
open Go.RowKit Go.Shelf Go.Maps

attribute [local go_sem] Oper.semAt_some

def PthR (r : Ru) : Prop := isP r.2.1 = true ∧ isP r.2.2 = true
set_option maxRecDepth 100000 in
theorem agree_any (r s : Ru) (w : World) (hr : PthR r) (hs : PthR s) :
    Calls Tryz.prog 68 #[ruV r, ruV s] w fun e w' => e = .returned (.bool (agrR r s)) ∧ Below w.heap.size w w' := by
  have hf1 := fun W => follows_any r s W hr hs
  have hf2 := fun W => follows_any s r W hs hr
  have HA : Hid (agrR r s = (!letsK r.1 || !letsK s.1 || folR r s && folR s r)) := rfl
  generalize agrR r s = A at *
  generalize folR r s = F1 at *
  generalize folR s r = F2 at *
  obtain ⟨k, f0, t0⟩ := r
  obtain ⟨k2, g0, s0⟩ := s
  simp only at HA
  have hl1 := fun W => lets_any k (mk f0) (mk t0) W
  have hl2 := fun W => lets_any k2 (mk g0) (mk s0) W
  generalize letsK k = L1 at *
  generalize letsK k2 = L2 at *
  simp only [ruV] at hf1 hf2 ⊢
  generalize mk f0 = f at *
  generalize mk t0 = t at *
  generalize mk g0 = f2 at *
  generalize mk s0 = t2 at *
  have hbA : BoxR ((w.alloc (.cells #[.int .i64 k, .string f, .string t] 31)).alloc (.cells #[.int .i64 k2, .string f2, .string t2] 31)) w.heap.size k f t := (Below.heap_alloc _ _ _ (by simp)).trans (BoxR.new w k f t)
  have hbB : BoxR ((w.alloc (.cells #[.int .i64 k, .string f, .string t] 31)).alloc (.cells #[.int .i64 k2, .string f2, .string t2] 31)) (w.heap.size + 1) k2 f2 t2 := by
    have h := BoxR.new (w.alloc (.cells #[.int .i64 k, .string f, .string t] 31)) k2 f2 t2
    rw [World.size_alloc] at h
    exact h
  have HBB : Hid (BoxR ((w.alloc (.cells #[.int .i64 k, .string f, .string t] 31)).alloc (.cells #[.int .i64 k2, .string f2, .string t2] 31)) w.heap.size k f t ∧ BoxR ((w.alloc (.cells #[.int .i64 k, .string f, .string t] 31)).alloc (.cells #[.int .i64 k2, .string f2, .string t2] 31)) (w.heap.size + 1) k2 f2 t2 ∧ Below w.heap.size w ((w.alloc (.cells #[.int .i64 k, .string f, .string t] 31)).alloc (.cells #[.int .i64 k2, .string f2, .string t2] 31))) := ⟨hbA, hbB, ((Below.refl _ w).alloc (Nat.le_refl _) _).alloc (by simp) _⟩
  clear hbA hbB hr hs
  go_enter Tryz.func68, Tryz.ntmps68
  go_upto_region 1 with fail
  generalize (w.alloc (.cells #[.int .i64 k, .string f, .string t] 31)).alloc (.cells #[.int .i64 k2, .string f2, .string t2] 31) = w0 at *
  generalize hby : w.heap.size + 1 = by_ at *
  clear hby
  have HC : Hid (∀ W, Below w0.heap.size w0 W → (BoxR W w.heap.size k f t ∧ BoxR W by_ k2 f2 t2) ∧ Below w.heap.size w W) := fun W hW => ⟨⟨HBB.out.1.below hW HBB.out.1.lt, HBB.out.2.1.below hW HBB.out.2.1.lt⟩, HBB.out.2.2.trans (hW.mono HBB.out.2.2.size)⟩
  generalize hbx : w.heap.size = bx at *
  have HBX : Hid (w.heap.size = bx) := hbx
  clear HBB hbx
  have c0 := (HC.out w0 (Below.refl _ _)).1
  obtain ⟨a0, a1, a2⟩ := c0.1.cell
  clear c0
  go_wp2_with fail
  refine (hl1 _).mono ?_
  clear hl1 a0 a1 a2
  rintro e w1 ⟨rfl, hB1⟩
  have H1 : Hid (Below w0.heap.size w0 w1) := hB1
  clear hB1
  cases L1 with
  | false =>
    have HX : Hid (A = true) := by show _ = _; rw [HA.out]; rfl
    clear hl2 hf1 hf2 HA
    go_wp2
    go_ret
    exact ⟨by rw [HX.out]; rfl, (by have h := (HC.out w1 H1.out).2; rw [← HBX.out] at h; exact h)⟩
  | true =>
    obtain ⟨b0, b1, b2⟩ := (HC.out w1 H1.out).1.2.cell
    go_wp2_with fail
    refine (hl2 _).mono ?_
    clear hl2 b0 b1 b2
    rintro e w2 ⟨rfl, hB2⟩
    have H2 : Hid (Below w0.heap.size w0 w2) := H1.out.trans (hB2.mono H1.out.size)
    clear hB2
    cases L2 with
    | false =>
      have HX : Hid (A = true) := by show _ = _; rw [HA.out]; rfl
      clear hf1 hf2 HA
      go_wp2
      go_ret
      exact ⟨by rw [HX.out]; rfl, (by have h := (HC.out w2 H2.out).2; rw [← HBX.out] at h; exact h)⟩
    | true =>
      obtain ⟨a0, a1, a2⟩ := (HC.out w2 H2.out).1.1.cell
      obtain ⟨b0, b1, b2⟩ := (HC.out w2 H2.out).1.2.cell
      go_wp2_with fail
      refine (hf1 _).mono ?_
      clear hf1 a0 a1 a2 b0 b1 b2
      rintro e w3 ⟨rfl, hB3⟩
      have H3 : Hid (Below w0.heap.size w0 w3) := H2.out.trans (hB3.mono H2.out.size)
      clear hB3
      cases F1 with
      | false =>
        have HX : Hid (A = false) := by show _ = _; rw [HA.out]; rfl
        clear hf2 HA
        go_wp2
        go_ret
        exact ⟨by rw [HX.out]; rfl, (by have h := (HC.out w3 H3.out).2; rw [← HBX.out] at h; exact h)⟩
      | true =>
        have HX : Hid (A = F2) := by show _ = _; rw [HA.out]; cases F2 <;> rfl
        obtain ⟨a0, a1, a2⟩ := (HC.out w3 H3.out).1.1.cell
        obtain ⟨b0, b1, b2⟩ := (HC.out w3 H3.out).1.2.cell
        clear HA
        go_wp2_with fail
        refine (hf2 _).mono ?_
        clear hf2 a0 a1 a2 b0 b1 b2
        rintro e w4 ⟨rfl, hB4⟩
        have H4 : Hid (Below w0.heap.size w0 w4) := H3.out.trans (hB4.mono H3.out.size)
        clear hB4
        go_wp2
        go_ret
        exact ⟨by rw [HX.out]; rfl, (by have h := (HC.out w4 H4.out).2; rw [← HBX.out] at h; exact h)⟩
theorem eqFrom (f f2 : ByteArray) : (f.toList == f2.toList) = decide (bs f = bs f2) := by
  rw [toList_bs, toList_bs, Bool.eq_iff_iff]; simp
theorem beside1_any (r s : Ru) (w : World) (bx : Nat) (hb : BoxR w bx r.1 (mk r.2.1) (mk r.2.2)) :
    Calls Tryz.prog 66 #[ruV s, .pointer (some ⟨bx, 0, none⟩)] w fun e w' => e = .returned (.bool (decide (s.2.1 = r.2.1))) ∧ Below w.heap.size w w' := by
  have HE : Hid (((mk s.2.1).toList == (mk r.2.1).toList) = decide (s.2.1 = r.2.1)) := by show _ = _; rw [eqFrom, bs_mk, bs_mk]
  generalize decide (s.2.1 = r.2.1) = D at *
  obtain ⟨k, f0, t0⟩ := r
  obtain ⟨k2, g0, s0⟩ := s
  simp only [ruV] at hb HE ⊢
  generalize mk f0 = f at *
  generalize mk t0 = t at *
  generalize mk g0 = f2 at *
  generalize mk s0 = t2 at *
  have hb1 : BoxR (w.alloc (.cells #[.int .i64 k2, .string f2, .string t2] 31)) bx k f t := (Below.heap_alloc _ _ _ hb.lt).trans hb
  have hb2 := BoxR.new w k2 f2 t2
  have HB : Hid (Below w.heap.size w (w.alloc (.cells #[.int .i64 k2, .string f2, .string t2] 31)) ∧ BoxR (w.alloc (.cells #[.int .i64 k2, .string f2, .string t2] 31)) bx k f t ∧ BoxR (w.alloc (.cells #[.int .i64 k2, .string f2, .string t2] 31)) w.heap.size k2 f2 t2) := ⟨(Below.refl _ w).alloc (Nat.le_refl _) _, hb1, hb2⟩
  clear hb hb1 hb2
  go_enter Tryz.func66, Tryz.ntmps66
  go_upto_region 1 with fail
  generalize w.alloc (.cells #[.int .i64 k2, .string f2, .string t2] 31) = w1 at *
  obtain ⟨a0, a1, a2⟩ := HB.out.2.1.cell
  obtain ⟨b0, b1, b2⟩ := HB.out.2.2.cell
  go_wp2
  go_ret
  exact ⟨by rw [← HE.out]; rfl, HB.out.1⟩
theorem beside2_any (r s : Ru) (w : World) (bx : Nat) (hb : BoxR w bx r.1 (mk r.2.1) (mk r.2.2)) (hr : PthR r) (hs : PthR s) :
    Calls Tryz.prog 67 #[ruV s, .pointer (some ⟨bx, 0, none⟩)] w fun e w' => e = .returned (.bool (!agrR r s)) ∧ Below w.heap.size w w' := by
  have hag := fun W => agree_any r s W hr hs
  generalize agrR r s = A at *
  obtain ⟨k, f0, t0⟩ := r
  obtain ⟨k2, g0, s0⟩ := s
  simp only [ruV] at hb hag ⊢
  generalize mk f0 = f at *
  generalize mk t0 = t at *
  generalize mk g0 = f2 at *
  generalize mk s0 = t2 at *
  have hb1 : BoxR (w.alloc (.cells #[.int .i64 k2, .string f2, .string t2] 31)) bx k f t := (Below.heap_alloc _ _ _ hb.lt).trans hb
  have hb2 := BoxR.new w k2 f2 t2
  have HB : Hid (Below w.heap.size w (w.alloc (.cells #[.int .i64 k2, .string f2, .string t2] 31)) ∧ BoxR (w.alloc (.cells #[.int .i64 k2, .string f2, .string t2] 31)) bx k f t ∧ BoxR (w.alloc (.cells #[.int .i64 k2, .string f2, .string t2] 31)) w.heap.size k2 f2 t2) := ⟨(Below.refl _ w).alloc (Nat.le_refl _) _, hb1, hb2⟩
  clear hb hb1 hb2 hr hs
  go_enter Tryz.func67, Tryz.ntmps67
  go_upto_region 1 with fail
  generalize w.alloc (.cells #[.int .i64 k2, .string f2, .string t2] 31) = w1 at *
  obtain ⟨a0, a1, a2⟩ := HB.out.2.1.cell
  obtain ⟨b0, b1, b2⟩ := HB.out.2.2.cell
  go_wp2_with fail
  refine (hag _).mono ?_
  clear hag a0 a1 a2 b0 b1 b2
  rintro e w2 ⟨rfl, hB2⟩
  go_wp2
  go_ret
  exact ⟨rfl, HB.out.1.trans (hB2.mono HB.out.1.size)⟩

set_option maxRecDepth 100000 in
theorem index1_any (r : Ru) (w : World) (bx : Nat) (hb : BoxR w bx r.1 (mk r.2.1) (mk r.2.2)) (a : Option Addr) (n c : Nat) (l : List Ru) (hl : Rus w a n l) (hn : n ≤ 1000) (hP : PthR r ∧ ∀ s ∈ l, PthR s) :
    Calls Tryz.prog 87 #[.slice a n c, .func (.func 66) #[] #[.pointer (some ⟨bx, 0, none⟩)]] w fun e w' => (∃ i : Int, e = .returned (.int .i64 i) ∧ (decide (0 ≤ i) = l.any (fun s : Ru => decide (s.2.1 = r.2.1)))) ∧ Below w.heap.size w w' := by
  have HL : Hid (Rus w a n l) := hl
  have HP : Hid (PthR r ∧ ∀ s ∈ l, PthR s) := hP
  have HBx : Hid (BoxR w bx r.1 (mk r.2.1) (mk r.2.2)) := hb
  clear hl hP hb
  go_enter Tryz.func87, Tryz.ntmps87
  go_wp2
  go_loopw [8] (fun v wr => ∃ k : Nat, k ≤ n ∧ v = .int .i64 (k : Int) ∧ Hid (Below w.heap.size w wr ∧ l.any (fun s : Ru => decide (s.2.1 = r.2.1)) = (l.drop k).any (fun s : Ru => decide (s.2.1 = r.2.1)))) (fun v _ => n - (intOf v).toNat)
  case atStart => exact ⟨0, Nat.zero_le _, rfl, Below.refl _ _, by rw [List.drop_zero]⟩
  case round =>
    obtain ⟨k, hk, rfl, H⟩ := hrel
    by_cases hlt : k < n
    · obtain ⟨x, hx⟩ : ∃ x, l[k]? = some x := ⟨_, List.getElem?_eq_getElem (by rw [HL.out.1]; exact hlt)⟩
      obtain ⟨b1, o1, hae, hc1⟩ := (HL.out.kept H.out.1).2 (by omega)
      subst hae
      obtain ⟨q0, q1, q2⟩ := hc1 k x hx
      have hcl := beside1_any r x _ bx (HBx.out.below H.out.1 HBx.out.lt)
      have hdr : (l.drop k).any (fun s : Ru => decide (s.2.1 = r.2.1)) = ((fun s : Ru => decide (s.2.1 = r.2.1)) x || (l.drop (k + 1)).any (fun s : Ru => decide (s.2.1 = r.2.1))) := by
        obtain ⟨hk2, hxe⟩ := List.getElem?_eq_some_iff.1 hx
        rw [List.drop_eq_getElem_cons hk2, List.any_cons, hxe]
      obtain ⟨D, hD⟩ : ∃ D, D = (fun s : Ru => decide (s.2.1 = r.2.1)) x := ⟨_, rfl⟩
      rw [← hD] at hdr
      simp only at hD
      rw [← hD] at hcl
      have HD : Hid (l.any (fun s : Ru => decide (s.2.1 = r.2.1)) = (D || (l.drop (k + 1)).any (fun s : Ru => decide (s.2.1 = r.2.1)))) := H.out.2.trans hdr
      have i5 : (k : Int) < (n : Int) := by omega
      have i6 : ¬ n ≤ k := by omega
      have hw8 : k ≤ 1000 := by omega
      obtain ⟨kk, fb, tb⟩ := x
      simp only [ruV] at hcl
      simp only at q0 q1 q2
      generalize mk fb = f' at *
      generalize mk tb = t' at *
      clear hc1 hx hdr hD
      go_wp2_with fail
      refine hcl.mono ?_
      clear hcl q0 q1 q2
      rintro e w2 ⟨rfl, hB2⟩
      have HB2 : Hid (Below w.heap.size w w2) := H.out.1.trans (hB2.mono H.out.1.size)
      clear hB2
      cases D with
      | true =>
        have HX : Hid (l.any (fun s : Ru => decide (s.2.1 = r.2.1)) = true) := by show _ = _; rw [HD.out]; rfl
        clear HD H
        go_wp2
        go_ret
        exact ⟨⟨_, rfl, by rw [HX.out]; simp⟩, HB2.out⟩
      | false =>
        have HX : Hid (l.any (fun s : Ru => decide (s.2.1 = r.2.1)) = (l.drop (k + 1)).any (fun s : Ru => decide (s.2.1 = r.2.1))) := by show _ = _; rw [HD.out]; rfl
        clear HD H
        go_wp2
        go_roundw
        case rel => exact ⟨k + 1, by omega, by simp, HB2.out, HX.out⟩
        case measure => simp [intOf]; omega
    · obtain rfl : k = n := by omega
      have i5 : ¬ (k : Int) < (k : Int) := by omega
      have HX : Hid (l.any (fun s : Ru => decide (s.2.1 = r.2.1)) = false ∧ Below w.heap.size w wr) := ⟨by rw [H.out.2, List.drop_of_length_le (by rw [HL.out.1]; exact Nat.le_refl _)]; rfl, H.out.1⟩
      clear H
      go_wp2
      go_ret
      exact ⟨⟨_, rfl, by rw [HX.out.1]; decide⟩, HX.out.2⟩
theorem contains1_any (r : Ru) (w : World) (bx : Nat) (hb : BoxR w bx r.1 (mk r.2.1) (mk r.2.2)) (a : Option Addr) (n c : Nat) (l : List Ru) (hl : Rus w a n l) (hn : n ≤ 1000) (hP : PthR r ∧ ∀ s ∈ l, PthR s) :
    Calls Tryz.prog 65 #[.slice a n c, .func (.func 66) #[] #[.pointer (some ⟨bx, 0, none⟩)]] w fun e w' => e = .returned (.bool (l.any (fun s : Ru => decide (s.2.1 = r.2.1)))) ∧ Below w.heap.size w w' := by
  have hix := index1_any r w bx hb a n c l hl hn hP
  generalize l.any (fun s : Ru => decide (s.2.1 = r.2.1)) = A at *
  clear hb hl hP
  go_enter Tryz.func65, Tryz.ntmps65
  go_wp2_with fail
  refine hix.mono ?_
  clear hix
  rintro e w1 ⟨⟨i, rfl, hi⟩, hB1⟩
  have HI : Hid (decide (0 ≤ i) = A) := hi
  have HB : Hid (Below w.heap.size w w1) := hB1
  clear hi hB1
  go_wp2
  go_ret
  refine ⟨?_, HB.out⟩
  rw [← HI.out]
  rfl

set_option maxRecDepth 100000 in
theorem index2_any (r : Ru) (w : World) (bx : Nat) (hb : BoxR w bx r.1 (mk r.2.1) (mk r.2.2)) (a : Option Addr) (n c : Nat) (l : List Ru) (hl : Rus w a n l) (hn : n ≤ 1000) (hP : PthR r ∧ ∀ s ∈ l, PthR s) :
    Calls Tryz.prog 87 #[.slice a n c, .func (.func 67) #[] #[.pointer (some ⟨bx, 0, none⟩)]] w fun e w' => (∃ i : Int, e = .returned (.int .i64 i) ∧ (decide (0 ≤ i) = l.any (fun s : Ru => !agrR r s))) ∧ Below w.heap.size w w' := by
  have HL : Hid (Rus w a n l) := hl
  have HP : Hid (PthR r ∧ ∀ s ∈ l, PthR s) := hP
  have HBx : Hid (BoxR w bx r.1 (mk r.2.1) (mk r.2.2)) := hb
  clear hl hP hb
  go_enter Tryz.func87, Tryz.ntmps87
  go_wp2
  go_loopw [8] (fun v wr => ∃ k : Nat, k ≤ n ∧ v = .int .i64 (k : Int) ∧ Hid (Below w.heap.size w wr ∧ l.any (fun s : Ru => !agrR r s) = (l.drop k).any (fun s : Ru => !agrR r s))) (fun v _ => n - (intOf v).toNat)
  case atStart => exact ⟨0, Nat.zero_le _, rfl, Below.refl _ _, by rw [List.drop_zero]⟩
  case round =>
    obtain ⟨k, hk, rfl, H⟩ := hrel
    by_cases hlt : k < n
    · obtain ⟨x, hx⟩ : ∃ x, l[k]? = some x := ⟨_, List.getElem?_eq_getElem (by rw [HL.out.1]; exact hlt)⟩
      obtain ⟨b1, o1, hae, hc1⟩ := (HL.out.kept H.out.1).2 (by omega)
      subst hae
      obtain ⟨q0, q1, q2⟩ := hc1 k x hx
      have hcl := beside2_any r x _ bx (HBx.out.below H.out.1 HBx.out.lt) HP.out.1 (HP.out.2 x (List.mem_of_getElem? hx))
      have hdr : (l.drop k).any (fun s : Ru => !agrR r s) = ((fun s : Ru => !agrR r s) x || (l.drop (k + 1)).any (fun s : Ru => !agrR r s)) := by
        obtain ⟨hk2, hxe⟩ := List.getElem?_eq_some_iff.1 hx
        rw [List.drop_eq_getElem_cons hk2, List.any_cons, hxe]
      obtain ⟨D, hD⟩ : ∃ D, D = (fun s : Ru => !agrR r s) x := ⟨_, rfl⟩
      rw [← hD] at hdr
      simp only at hD
      rw [← hD] at hcl
      have HD : Hid (l.any (fun s : Ru => !agrR r s) = (D || (l.drop (k + 1)).any (fun s : Ru => !agrR r s))) := H.out.2.trans hdr
      have i5 : (k : Int) < (n : Int) := by omega
      have i6 : ¬ n ≤ k := by omega
      have hw8 : k ≤ 1000 := by omega
      obtain ⟨kk, fb, tb⟩ := x
      simp only [ruV] at hcl
      simp only at q0 q1 q2
      generalize mk fb = f' at *
      generalize mk tb = t' at *
      clear hc1 hx hdr hD
      go_wp2_with fail
      refine hcl.mono ?_
      clear hcl q0 q1 q2
      rintro e w2 ⟨rfl, hB2⟩
      have HB2 : Hid (Below w.heap.size w w2) := H.out.1.trans (hB2.mono H.out.1.size)
      clear hB2
      cases D with
      | true =>
        have HX : Hid (l.any (fun s : Ru => !agrR r s) = true) := by show _ = _; rw [HD.out]; rfl
        clear HD H
        go_wp2
        go_ret
        exact ⟨⟨_, rfl, by rw [HX.out]; simp⟩, HB2.out⟩
      | false =>
        have HX : Hid (l.any (fun s : Ru => !agrR r s) = (l.drop (k + 1)).any (fun s : Ru => !agrR r s)) := by show _ = _; rw [HD.out]; rfl
        clear HD H
        go_wp2
        go_roundw
        case rel => exact ⟨k + 1, by omega, by simp, HB2.out, HX.out⟩
        case measure => simp [intOf]; omega
    · obtain rfl : k = n := by omega
      have i5 : ¬ (k : Int) < (k : Int) := by omega
      have HX : Hid (l.any (fun s : Ru => !agrR r s) = false ∧ Below w.heap.size w wr) := ⟨by rw [H.out.2, List.drop_of_length_le (by rw [HL.out.1]; exact Nat.le_refl _)]; rfl, H.out.1⟩
      clear H
      go_wp2
      go_ret
      exact ⟨⟨_, rfl, by rw [HX.out.1]; decide⟩, HX.out.2⟩
theorem contains2_any (r : Ru) (w : World) (bx : Nat) (hb : BoxR w bx r.1 (mk r.2.1) (mk r.2.2)) (a : Option Addr) (n c : Nat) (l : List Ru) (hl : Rus w a n l) (hn : n ≤ 1000) (hP : PthR r ∧ ∀ s ∈ l, PthR s) :
    Calls Tryz.prog 65 #[.slice a n c, .func (.func 67) #[] #[.pointer (some ⟨bx, 0, none⟩)]] w fun e w' => e = .returned (.bool (l.any (fun s : Ru => !agrR r s))) ∧ Below w.heap.size w w' := by
  have hix := index2_any r w bx hb a n c l hl hn hP
  generalize l.any (fun s : Ru => !agrR r s) = A at *
  clear hb hl hP
  go_enter Tryz.func65, Tryz.ntmps65
  go_wp2_with fail
  refine hix.mono ?_
  clear hix
  rintro e w1 ⟨⟨i, rfl, hi⟩, hB1⟩
  have HI : Hid (decide (0 ≤ i) = A) := hi
  have HB : Hid (Below w.heap.size w w1) := hB1
  clear hi hB1
  go_wp2
  go_ret
  refine ⟨?_, HB.out⟩
  rw [← HI.out]
  rfl

/-- what is wrong with a rule that is to stand beside others -/
def besE (r : Ru) (l : List Ru) : Int := if okR r = false then 2 else if l.any (fun s : Ru => decide (s.2.1 = r.2.1)) then 240 else if l.any (fun s : Ru => !agrR r s) then 241 else 0
theorem okR_pth {r : Ru} (h : okR r = true) : PthR r := by
  unfold okR at h
  simp only [Bool.and_eq_true] at h
  exact ⟨h.1.1, h.1.2⟩
set_option maxRecDepth 100000 in
theorem beside_any (r : Ru) (w : World) (hz : r.2.1.length ≤ 100000 ∧ r.2.2.length ≤ 100000) (a : Option Addr) (n c : Nat) (l : List Ru) (hl : Rus w a n l) (hn : n ≤ 1000) (hP : ∀ s ∈ l, PthR s) :
    Calls Tryz.prog 46 #[ruV r, .slice a n c] w fun e w' => e = .returned (.int .i64 (besE r l)) ∧ Below w.heap.size w w' := by
  have hck := fun W => ucheck_any r.1 (mk r.2.1) (mk r.2.2) W (by unfold maxLen; rw [← bs_len, bs_mk]; omega) (by unfold maxLen; rw [← bs_len, bs_mk]; omega)
  rw [bs_mk, bs_mk] at hck
  have HL : Hid (Rus w a n l) := hl
  have hc1 := fun W bx hb hB h0 => contains1_any r W bx hb a n c l (hl.kept hB) hn ⟨okR_pth h0, hP⟩
  have hc2 := fun W bx hb hB h0 => contains2_any r W bx hb a n c l (hl.kept hB) hn ⟨okR_pth h0, hP⟩
  have HE : Hid (besE r l = if okR r = false then 2 else if l.any (fun s : Ru => decide (s.2.1 = r.2.1)) then 240 else if l.any (fun s : Ru => !agrR r s) then 241 else 0) := rfl
  generalize besE r l = BE at *
  generalize l.any (fun s : Ru => decide (s.2.1 = r.2.1)) = A1 at *
  generalize l.any (fun s : Ru => !agrR r s) = A2 at *
  have hnb := BoxR.new w r.1 (mk r.2.1) (mk r.2.2)
  have HB : Hid (BoxR (w.alloc (.cells #[.int .i64 r.1, .string (mk r.2.1), .string (mk r.2.2)] 31)) w.heap.size r.1 (mk r.2.1) (mk r.2.2) ∧ Below w.heap.size w (w.alloc (.cells #[.int .i64 r.1, .string (mk r.2.1), .string (mk r.2.2)] 31))) := ⟨hnb, (Below.refl _ w).alloc (Nat.le_refl _) _⟩
  have hck' : ∀ W, Calls Tryz.prog 64 #[rv r.1 (mk r.2.1) (mk r.2.2)] W fun e w' => e = .returned (.int .i64 (chkE r)) ∧ Below W.heap.size W w' := hck
  have HC : Hid (chkE r = if okR r = true then 0 else 2) := rfl
  have HC1 : Hid (∀ W bx, BoxR W bx r.1 (mk r.2.1) (mk r.2.2) → Below w.heap.size w W → okR r = true → Calls Tryz.prog 65 #[.slice a n c, .func (.func 66) #[] #[.pointer (some ⟨bx, 0, none⟩)]] W fun e w' => e = .returned (.bool A1) ∧ Below W.heap.size W w') := hc1
  have HC2 : Hid (∀ W bx, BoxR W bx r.1 (mk r.2.1) (mk r.2.2) → Below w.heap.size w W → okR r = true → Calls Tryz.prog 65 #[.slice a n c, .func (.func 67) #[] #[.pointer (some ⟨bx, 0, none⟩)]] W fun e w' => e = .returned (.bool A2) ∧ Below W.heap.size W w') := hc2
  generalize chkE r = CE at *
  generalize okR r = OK at *
  obtain ⟨k, f0, t0⟩ := r
  simp only [ruV] at hck' HB HC1 HC2 ⊢
  generalize mk f0 = f at *
  generalize mk t0 = t at *
  clear hck hc1 hc2 hnb hl hP hz
  go_enter Tryz.func46, Tryz.ntmps46
  go_upto_region 1 with fail
  generalize w.alloc (.cells #[.int .i64 k, .string f, .string t] 31) = w1 at *
  obtain ⟨a0, a1, a2⟩ := HB.out.1.cell
  go_wp2_with fail
  refine (hck' _).mono ?_
  clear hck' a0 a1 a2
  rintro e w2 ⟨rfl, hB2⟩
  have H2 : Hid (BoxR w2 w.heap.size k f t ∧ Below w.heap.size w w2) := ⟨HB.out.1.below hB2 HB.out.1.lt, HB.out.2.trans (hB2.mono HB.out.2.size)⟩
  clear hB2 HB
  cases OK with
  | false =>
    have hce : CE = 2 := HC.out
    subst hce
    have HX : Hid (BE = 2) := HE.out
    clear HC1 HC2 HE HC
    go_wp2
    go_ret
    exact ⟨by rw [HX.out]; rfl, H2.out.2⟩
  | true =>
    have hce : CE = 0 := HC.out
    subst hce
    have hk1 := HC1.out w2 _ H2.out.1 H2.out.2 rfl
    clear HC HC1
    go_wp2_with fail
    refine hk1.mono ?_
    clear hk1
    rintro e w3 ⟨rfl, hB3⟩
    have H3 : Hid (BoxR w3 w.heap.size k f t ∧ Below w.heap.size w w3) := ⟨H2.out.1.below hB3 H2.out.1.lt, H2.out.2.trans (hB3.mono H2.out.2.size)⟩
    clear hB3 H2
    cases A1 with
    | true =>
      have HX : Hid (BE = 240) := HE.out
      clear HC2 HE
      go_wp2
      go_ret
      exact ⟨by rw [HX.out]; rfl, H3.out.2⟩
    | false =>
      have hk2 := HC2.out w3 _ H3.out.1 H3.out.2 (by first | rfl | trivial)
      clear HC2
      go_wp2_with fail
      refine hk2.mono ?_
      clear hk2
      rintro e w4 ⟨rfl, hB4⟩
      have H4 : Hid (Below w.heap.size w w4) := H3.out.2.trans (hB4.mono H3.out.2.size)
      clear hB4 H3
      cases A2 with
      | true =>
        have HX : Hid (BE = 241) := HE.out
        clear HE
        go_wp2
        go_ret
        exact ⟨by rw [HX.out]; rfl, H4.out⟩
      | false =>
        have HX : Hid (BE = 0) := HE.out
        clear HE
        go_wp2
        go_ret
        exact ⟨by rw [HX.out]; rfl, H4.out⟩
end Go.Proofs.YtggnglgehobglaaGreatDoor
