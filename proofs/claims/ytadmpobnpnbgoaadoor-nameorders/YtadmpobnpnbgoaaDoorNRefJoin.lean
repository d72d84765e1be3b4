/- The walks of the document's Join and Move. -/
import Derived.Test.YtadmpobnpnbgoaaDoorNRefMove
namespace Go.Proofs.YtadmpobnpnbgoaaDoor
open Go.RowKit Go.Shelf

/-- the names of a path, in a row of one's own -/
theorem parts_own (s : ByteArray) (w : World) (hs : s.size ≤ 1000000) :
    Calls Tryd.prog 14 #[.string s] w fun e w' => (∃ a, e = .returned (.slice a (parts (bs s)).length (parts (bs s)).length) ∧ w'.ownsRow w.heap.size 9 1 (.slice a (parts (bs s)).length (parts (bs s)).length) (parts (bs s)).length (((parts (bs s)).map mk).map Value.string) ∧ (a = none → (parts (bs s)).length = 0)) ∧ Below w.heap.size w w' := by
  by_cases h1 : s.toList = []
  · have hp : parts (bs s) = [] := by rw [← toList_bs, h1]; rfl
    rw [hp]
    go_enter Tryd.func14, Tryd.ntmps14
    go_wp2
    go_ret
    exact ⟨⟨none, rfl, World.ownsRow_nil _ _ _ _, fun _ => by first | rfl | trivial⟩, Below.refl _ _⟩
  · have b1 : s.toList.isEmpty = false := by simpa using h1
    have hp : parts (bs s) = cutS [] (bs s) := by unfold parts; rw [if_neg (by rw [← toList_bs]; exact h1)]
    have hpc := parts_count (bs s)
    rw [bs_len] at hpc
    rw [hp] at hpc ⊢
    have hx := split_any s w hs
    have H : Hid ((w.alloc (.cells (((cutS [] (bs s)).map mk).map Value.string).toArray 9)).ownsRow w.heap.size 9 1 (.slice (some ⟨w.heap.size, 0, none⟩) (cutS [] (bs s)).length (cutS [] (bs s)).length) (cutS [] (bs s)).length (((cutS [] (bs s)).map mk).map Value.string)) :=
      ⟨by simp, .inr ⟨w.heap.size, (cutS [] (bs s)).length, _, rfl, Nat.le_refl _, World.alloc_heap_new w _, Nat.le_refl _, by unfold maxLen; omega, by simp, by
        rw [Nat.mul_one]
        show List.take _ (((cutS [] (bs s)).map mk).map Value.string) = _
        exact List.take_of_length_le (by simp)⟩⟩
    clear hp hpc
    generalize (((cutS [] (bs s)).map mk).map Value.string) = C at hx H ⊢
    generalize (cutS [] (bs s)).length = n at hx H ⊢
    go_enter Tryd.func14, Tryd.ntmps14
    go_wp2_with (go_at_call 36; refine hx.mono ?_; rintro e w' ⟨rfl, rfl⟩)
    go_ret
    exact ⟨⟨_, rfl, H.out, fun h => by cases h⟩, (Below.refl _ w).alloc (Nat.le_refl _) _⟩

/-- two paths put together, or what is wrong -/
def rjoinR (p q : List UInt8) : List UInt8 × Nat := if firstP [p, q] ≠ 0 then ([], firstP [p, q]) else match joinP p q with
  | none => ([], 3)
  | some x => (x, 0)
theorem make_join (p q : List UInt8) (hp : isP p = true) (hq : isP q = true) : makeP (parts p ++ parts q) = rjoinR p q := by
  have hg := (isP_good hp).append (isP_good hq)
  unfold rjoinR
  rw [firstP_of _ (fun x hx => by
    rcases List.mem_cons.1 hx with e | e
    · rw [e]; exact hp
    · rw [List.mem_singleton.1 e]; exact hq), if_neg (by simp), joinP_parts p q hp hq]
  unfold makeP
  rw [firstN_of _ hg, if_neg (by simp)]
  have hi := isP_glue _ hg
  by_cases h : isP (glue (parts p ++ parts q)) = true
  · rw [if_pos h]
    have := hi.1 h
    rw [if_neg (by omega)]
  · rw [if_neg h]
    have : 16 < (parts p ++ parts q).length ∨ 200 < (glue (parts p ++ parts q)).length := by
      by_cases h1 : 16 < (parts p ++ parts q).length
      · exact .inl h1
      · right
        by_cases h2 : 200 < (glue (parts p ++ parts q)).length
        · exact h2
        · exact absurd (hi.2 (by omega)) h
    rw [if_pos this]

theorem rpath_is (s : ByteArray) (hs : s.size ≤ 1000000) (e1 : Nat) (h : e1 = (pathSpot (bs s)).1) (w : World) :
    Calls Tryd.prog 13 #[.string s] w fun e w' => e = .returned (.agg #[.int .i64 (e1 : Int), .int .i64 ((pathSpot (bs s)).2 : Int)]) ∧ Below w.heap.size w w' := by
  have := refPath_any s w hs
  unfold spotV at this
  rw [← h] at this
  exact this
theorem isP_zero (s : List UInt8) : isP s = true ↔ (pathSpot s).1 = 0 := by unfold isP; exact beq_iff_eq

theorem row_below {w w' : World} {base n : Nat} {e : TypeId} {v : Value} {xs : List Value} (h : w.ownsRow base e 1 v n xs) (hB : Below w.heap.size w w') : w'.ownsRow base e 1 v n xs := by
  refine ⟨h.1, ?_⟩
  rcases h.2 with h | ⟨g, cap, cur, rfl, hb, hg, rest⟩
  · exact .inl h
  · exact .inr ⟨g, cap, cur, rfl, hb, (hB.block g (Array.getElem?_eq_some_iff.1 hg).1).trans hg, rest⟩

set_option maxRecDepth 20000 in
set_option maxHeartbeats 4000000 in
theorem refJoin_any (p q : ByteArray) (w : World) (hp : p.size ≤ 500000) (hq : q.size ≤ 500000) :
    Calls Tryd.prog 20 #[.string p, .string q] w fun e w' => e = .returned (.tuple #[.string (mk (rjoinR (bs p) (bs q)).1), .int .i64 ((rjoinR (bs p) (bs q)).2 : Int)]) ∧ Below w.heap.size w w' := by
  obtain ⟨e1, h1⟩ : ∃ e1, e1 = (pathSpot (bs p)).1 := ⟨_, rfl⟩
  obtain ⟨e2, h2⟩ : ∃ e2, e2 = (pathSpot (bs q)).1 := ⟨_, rfl⟩
  have hx := rpath_is p (by omega) e1 h1
  have hy := rpath_is q (by omega) e2 h2
  generalize (pathSpot (bs p)).2 = d1 at hx
  generalize (pathSpot (bs q)).2 = d2 at hy
  have hpar := fun w => parts_own p w (by omega)
  have hqar := fun w => parts_own q w (by omega)
  have hbx : ∀ (w : World) (a b : Int), (w.alloc (.cells #[.int .i64 a, .int .i64 b] 26)).cell? ⟨w.heap.size, 0, none⟩ = some (.int .i64 a) := fun w a b => (box2_at w _ _).1
  have hi0 : ∀ w, (Instr.index 54 (.agg #[.string p, .string q]) (.int .i64 0)).run Tryd.prog w = .ok (.string p) w := fun _ => by kernel_rfl
  have hi1 : ∀ w, (Instr.index 54 (.agg #[.string p, .string q]) (.int .i64 1)).run Tryd.prog w = .ok (.string q) w := fun _ => by kernel_rfl
  have HE : Hid (e1 = (pathSpot (bs p)).1 ∧ e2 = (pathSpot (bs q)).1) := ⟨h1, h2⟩
  clear h1 h2
  have hBc : Below w.heap.size w w := Below.refl _ _
  go_enter Tryd.func20, Tryd.ntmps20
  go_wp2
  go_loopw [12] (fun i wr => ∃ k : Nat, k ≤ 2 ∧ i = .int .i64 k ∧ Hid (Below w.heap.size w wr ∧ (1 ≤ k → isP (bs p) = true) ∧ (2 ≤ k → isP (bs q) = true))) (fun i _ => 2 - (intOf i).toNat)
  case atStart => exact ⟨0, by omega, rfl, Below.refl _ _, fun h => by omega, fun h => by omega⟩
  case round =>
    obtain ⟨k, hk, rfl, H⟩ := hrel
    clear hBc
    by_cases hlt : k < 2
    · rcases (show k = 0 ∨ k = 1 by omega) with hk0 | hk1
      · subst hk0
        by_cases h0 : e1 = 0
        · subst h0
          have HP : Hid (isP (bs p) = true) := (isP_zero _).2 (HE.out.1).symm
          go_wp2_with (go_at_call 13; refine (hx _).mono ?_; clear hx; rintro e w1 ⟨rfl, hB1⟩; have q0 := hbx w1 0 (d1 : Int))
          go_roundw
          case rel => exact ⟨1, by omega, rfl, (H.out.1.trans (hB1.mono H.out.1.size)).alloc (by have := H.out.1.size; have := hB1.size; omega) _, fun _ => HP.out, fun h => by omega⟩
          case measure => simp [intOf]
        · have j0 : ¬ (e1 : Int) = 0 := by omega
          have HR : Hid (rjoinR (bs p) (bs q) = ([], e1)) := by
            show _ = _
            have hno : ∀ x : ByteArray, (pathSpot (bs x)).1 ≠ 0 → isP (bs x) = false := fun x hx => by
              cases hh : isP (bs x) with
              | false => rfl
              | true => exact absurd ((isP_zero _).1 hh) hx
            have hf : firstP [bs p, bs q] = e1 := by unfold firstP; rw [hno p (by rw [← HE.out.1]; exact h0), HE.out.1]; rfl
            unfold rjoinR
            rw [hf, if_pos h0]
          go_wp2_with (go_at_call 13; refine (hx _).mono ?_; clear hx; rintro e w1 ⟨rfl, hB1⟩; have q0 := hbx w1 (e1 : Int) (d1 : Int))
          go_quiet (fail)
          go_wp2_with fail
          go_ret2
          rw [HR.out]
          exact ⟨rfl, below_drewN ((H.out.1.trans (hB1.mono H.out.1.size)).alloc (by have := H.out.1.size; have := hB1.size; omega) _) _⟩
      · subst hk1
        by_cases h0 : e2 = 0
        · subst h0
          have HP : Hid (isP (bs q) = true) := (isP_zero _).2 (HE.out.2).symm
          go_wp2_with (go_at_call 13; refine (hy _).mono ?_; clear hy; rintro e w1 ⟨rfl, hB1⟩; have q0 := hbx w1 0 (d2 : Int))
          go_roundw
          case rel => exact ⟨2, by omega, rfl, (H.out.1.trans (hB1.mono H.out.1.size)).alloc (by have := H.out.1.size; have := hB1.size; omega) _, fun _ => H.out.2.1 (by omega), fun _ => HP.out⟩
          case measure => simp [intOf]
        · have j0 : ¬ (e2 : Int) = 0 := by omega
          have HR : Hid (rjoinR (bs p) (bs q) = ([], e2)) := by
            show _ = _
            have hno : ∀ x : ByteArray, (pathSpot (bs x)).1 ≠ 0 → isP (bs x) = false := fun x hx => by
              cases hh : isP (bs x) with
              | false => rfl
              | true => exact absurd ((isP_zero _).1 hh) hx
            have hf : firstP [bs p, bs q] = e2 := by
              unfold firstP; rw [H.out.2.1 (by omega)]
              unfold firstP; rw [hno q (by rw [← HE.out.2]; exact h0), HE.out.2]; rfl
            unfold rjoinR
            rw [hf, if_pos h0]
          go_wp2_with (go_at_call 13; refine (hy _).mono ?_; clear hy; rintro e w1 ⟨rfl, hB1⟩; have q0 := hbx w1 (e2 : Int) (d2 : Int))
          go_quiet (fail)
          go_wp2_with fail
          go_ret2
          rw [HR.out]
          exact ⟨rfl, below_drewN ((H.out.1.trans (hB1.mono H.out.1.size)).alloc (by have := H.out.1.size; have := hB1.size; omega) _) _⟩
    · obtain rfl : k = 2 := by omega
      have pp := H.out.2.1 (by omega)
      have pq := H.out.2.2 (by omega)
      have hmj := make_join (bs p) (bs q) pp pq
      have lp := ((isP_iff _).1 pp).2.2
      have lq := ((isP_iff _).1 pq).2.2
      have gpq := (isP_good pp).append (isP_good pq)
      have HM : Hid (∀ w1 (a : Option Addr) (c : Nat), Strs w1 a ((parts (bs p)).length + (parts (bs q)).length) ((parts (bs p)).map mk ++ (parts (bs q)).map mk) → (parts (bs p)).length + (parts (bs q)).length ≤ c → Calls Tryd.prog 22 #[.slice a ((parts (bs p)).length + (parts (bs q)).length) c] w1 fun e w' => e = .returned (.tuple #[.string (mk (rjoinR (bs p) (bs q)).1), .int .i64 ((rjoinR (bs p) (bs q)).2 : Int)]) ∧ Below w1.heap.size w1 w') := fun w1 a c hs hc => by
        have hmm : ((parts (bs p)).map mk ++ (parts (bs q)).map mk).map bs = parts (bs p) ++ parts (bs q) := by
          rw [← List.map_append, List.map_map]
          have : ∀ x ∈ parts (bs p) ++ parts (bs q), (bs ∘ mk) x = x := fun x _ => bs_mk x
          rw [List.map_congr_left this, List.map_id']
        have := refMake_any w1 a _ c _ hs (fun x hx => by
          rw [← List.map_append] at hx
          obtain ⟨y, hy, rfl⟩ := List.mem_map.1 hx
          have := (okName_parts y (gpq y hy)).2.1
          rw [← bs_len, bs_mk]; unfold maxLen; omega) hc (by omega)
        rw [hmm, hmj] at this
        exact this
      obtain ⟨R1, hR1⟩ : ∃ R1, R1 = mk (rjoinR (bs p) (bs q)).1 := ⟨_, rfl⟩
      obtain ⟨R2, hR2⟩ : ∃ R2, R2 = (rjoinR (bs p) (bs q)).2 := ⟨_, rfl⟩
      rw [← hR1, ← hR2] at HM
      have HRR : Hid (R1 = mk (rjoinR (bs p) (bs q)).1 ∧ R2 = (rjoinR (bs p) (bs q)).2) := ⟨hR1, hR2⟩
      clear hR1 hR2
      clear hmj gpq pp pq HE hx hy
      generalize (parts (bs p)).map mk = AM at HM hpar
      generalize (parts (bs q)).map mk = BM at HM hqar
      generalize (parts (bs p)).length = n at *
      generalize (parts (bs q)).length = m at *
      replace hpar := hpar wr
      go_wp2_with first
        | (go_at_call 14; refine hpar.mono ?_; clear hpar; rintro e w3 ⟨⟨a3, rfl, s3, n3⟩, hB3⟩; replace hqar := hqar w3)
        | (go_at_call 14; refine hqar.mono ?_; clear hqar; rintro e w4 ⟨⟨a4, rfl, s4, n4⟩, hB4⟩; have s4s := srow_strs s4; have s3k := row_below s3 hB4)
        | (at_builtin; refine wpList_append_strs rfl _ _ rfl wr.heap.size n m m _ AM BM a4 rfl rfl s3k s4s (fun h => ⟨n4 h, n4 h⟩) (by omega) (by have := hB3.size; have := hB4.size; omega) ?_; intro ad5 c5 w5 h51 h52 h53 h54; have hmk := HM.out w5 ad5 c5 (srow_strs h53) h51)
        | (go_at_call 22; refine hmk.mono ?_; clear hmk; rintro e w6 ⟨rfl, hB6⟩)
      go_ret2
      have t3 := H.out.1.trans (hB3.mono H.out.1.size)
      have t4 := t3.trans (hB4.mono t3.size)
      have t5 := t4.trans (h54.mono H.out.1.size)
      exact ⟨by rw [← HRR.out.1, ← HRR.out.2]; rfl, t5.trans (hB6.mono t5.size)⟩
theorem rest_path (p q r : List UInt8) (hp : isP p = true) (hq : isP q = true) (h : restP p q = some r) : isP r = true := by
  have hg := isP_good hp
  have hl : r.length ≤ p.length := restP_len _ _ _ h
  have h2 := (isP_iff p).1 hp
  rw [restP_parts p q hp hq] at h
  split at h
  · injection h with h
    have hgd : Good ((parts p).drop (parts q).length) := hg.sub (fun n hn => List.mem_of_mem_drop hn)
    rw [← h] at hl ⊢
    exact (isP_glue _ hgd).2 ⟨by omega, by rw [List.length_drop]; omega⟩
  · cases h

set_option maxRecDepth 20000 in
set_option maxHeartbeats 4000000 in
theorem refMove_any (p q t : ByteArray) (w : World) (hp : p.size ≤ 200000) (hq : q.size ≤ 200000) (ht : t.size ≤ 200000) :
    Calls Tryd.prog 23 #[.string p, .string q, .string t] w fun e w' => e = .returned (.tuple #[.string (mk (moveP (bs p) (bs q) (bs t)).1), .int .i64 ((moveP (bs p) (bs q) (bs t)).2 : Int)]) ∧ Below w.heap.size w w' := by
  obtain ⟨e1, h1⟩ : ∃ e1, e1 = (pathSpot (bs p)).1 := ⟨_, rfl⟩
  obtain ⟨e2, h2⟩ : ∃ e2, e2 = (pathSpot (bs q)).1 := ⟨_, rfl⟩
  obtain ⟨e3, h3⟩ : ∃ e3, e3 = (pathSpot (bs t)).1 := ⟨_, rfl⟩
  have hx := rpath_is p (by omega) e1 h1
  have hy := rpath_is q (by omega) e2 h2
  have hz := rpath_is t (by omega) e3 h3
  generalize (pathSpot (bs p)).2 = d1 at hx
  generalize (pathSpot (bs q)).2 = d2 at hy
  generalize (pathSpot (bs t)).2 = d3 at hz
  have hbx : ∀ (w : World) (a b : Int), (w.alloc (.cells #[.int .i64 a, .int .i64 b] 26)).cell? ⟨w.heap.size, 0, none⟩ = some (.int .i64 a) := fun w a b => (box2_at w _ _).1
  have hi0 : ∀ w, (Instr.index 56 (.agg #[.string p, .string q, .string t]) (.int .i64 0)).run Tryd.prog w = .ok (.string p) w := fun _ => by kernel_rfl
  have hi1 : ∀ w, (Instr.index 56 (.agg #[.string p, .string q, .string t]) (.int .i64 1)).run Tryd.prog w = .ok (.string q) w := fun _ => by kernel_rfl
  have hi2 : ∀ w, (Instr.index 56 (.agg #[.string p, .string q, .string t]) (.int .i64 2)).run Tryd.prog w = .ok (.string t) w := fun _ => by kernel_rfl
  have HE : Hid (e1 = (pathSpot (bs p)).1 ∧ e2 = (pathSpot (bs q)).1 ∧ e3 = (pathSpot (bs t)).1) := ⟨h1, h2, h3⟩
  clear h1 h2 h3
  go_enter Tryd.func23, Tryd.ntmps23
  go_wp2
  go_loopw [17] (fun i wr => ∃ k : Nat, k ≤ 3 ∧ i = .int .i64 k ∧ Hid (Below w.heap.size w wr ∧ (1 ≤ k → isP (bs p) = true) ∧ (2 ≤ k → isP (bs q) = true) ∧ (3 ≤ k → isP (bs t) = true))) (fun i _ => 3 - (intOf i).toNat)
  case atStart => exact ⟨0, by omega, rfl, Below.refl _ _, fun h => by omega, fun h => by omega, fun h => by omega⟩
  case round =>
    obtain ⟨k, hk, rfl, H⟩ := hrel
    by_cases hlt : k < 3
    · rcases (show k = 0 ∨ k = 1 ∨ k = 2 by omega) with hk0 | hk1 | hk2
      · subst hk0
        by_cases h0 : e1 = 0
        · subst h0
          have HP : Hid (isP (bs p) = true) := (isP_zero _).2 (HE.out.1).symm
          go_wp2_with (go_at_call 13; refine (hx _).mono ?_; clear hx; rintro e w1 ⟨rfl, hB1⟩; have q0 := hbx w1 0 (d1 : Int))
          go_roundw
          case rel => exact ⟨1, by omega, rfl, (H.out.1.trans (hB1.mono H.out.1.size)).alloc (by have := H.out.1.size; have := hB1.size; omega) _, fun _ => HP.out, fun h => by omega, fun h => by omega⟩
          case measure => simp [intOf]
        · have j0 : ¬ (e1 : Int) = 0 := by omega
          have HR : Hid (moveP (bs p) (bs q) (bs t) = ([], e1)) := by
            show _ = _
            have hno : ∀ x : ByteArray, (pathSpot (bs x)).1 ≠ 0 → isP (bs x) = false := fun x hx => by
              cases hh : isP (bs x) with
              | false => rfl
              | true => exact absurd ((isP_zero _).1 hh) hx
            have hf : firstP [bs p, bs q, bs t] = e1 := by unfold firstP; rw [hno p (by rw [← HE.out.1]; exact h0), HE.out.1]; rfl
            unfold moveP
            rw [hf, if_pos h0]
          go_wp2_with (go_at_call 13; refine (hx _).mono ?_; clear hx; rintro e w1 ⟨rfl, hB1⟩; have q0 := hbx w1 (e1 : Int) (d1 : Int))
          go_quiet (fail)
          go_wp2_with fail
          go_ret2
          rw [HR.out]
          exact ⟨rfl, below_drewN ((H.out.1.trans (hB1.mono H.out.1.size)).alloc (by have := H.out.1.size; have := hB1.size; omega) _) _⟩
      · subst hk1
        by_cases h0 : e2 = 0
        · subst h0
          have HP : Hid (isP (bs q) = true) := (isP_zero _).2 (HE.out.2.1).symm
          go_wp2_with (go_at_call 13; refine (hy _).mono ?_; clear hy; rintro e w1 ⟨rfl, hB1⟩; have q0 := hbx w1 0 (d2 : Int))
          go_roundw
          case rel => exact ⟨2, by omega, rfl, (H.out.1.trans (hB1.mono H.out.1.size)).alloc (by have := H.out.1.size; have := hB1.size; omega) _, fun _ => H.out.2.1 (by omega), fun _ => HP.out, fun h => by omega⟩
          case measure => simp [intOf]
        · have j0 : ¬ (e2 : Int) = 0 := by omega
          have HR : Hid (moveP (bs p) (bs q) (bs t) = ([], e2)) := by
            show _ = _
            have hno : ∀ x : ByteArray, (pathSpot (bs x)).1 ≠ 0 → isP (bs x) = false := fun x hx => by
              cases hh : isP (bs x) with
              | false => rfl
              | true => exact absurd ((isP_zero _).1 hh) hx
            have hf : firstP [bs p, bs q, bs t] = e2 := by
              unfold firstP; rw [H.out.2.1 (by omega)]
              unfold firstP; rw [hno q (by rw [← HE.out.2.1]; exact h0), HE.out.2.1]; rfl
            unfold moveP
            rw [hf, if_pos h0]
          go_wp2_with (go_at_call 13; refine (hy _).mono ?_; clear hy; rintro e w1 ⟨rfl, hB1⟩; have q0 := hbx w1 (e2 : Int) (d2 : Int))
          go_quiet (fail)
          go_wp2_with fail
          go_ret2
          rw [HR.out]
          exact ⟨rfl, below_drewN ((H.out.1.trans (hB1.mono H.out.1.size)).alloc (by have := H.out.1.size; have := hB1.size; omega) _) _⟩
      · subst hk2
        by_cases h0 : e3 = 0
        · subst h0
          have HP : Hid (isP (bs t) = true) := (isP_zero _).2 (HE.out.2.2).symm
          go_wp2_with (go_at_call 13; refine (hz _).mono ?_; clear hz; rintro e w1 ⟨rfl, hB1⟩; have q0 := hbx w1 0 (d3 : Int))
          go_roundw
          case rel => exact ⟨3, by omega, rfl, (H.out.1.trans (hB1.mono H.out.1.size)).alloc (by have := H.out.1.size; have := hB1.size; omega) _, fun _ => H.out.2.1 (by omega), fun _ => H.out.2.2.1 (by omega), fun _ => HP.out⟩
          case measure => simp [intOf]
        · have j0 : ¬ (e3 : Int) = 0 := by omega
          have HR : Hid (moveP (bs p) (bs q) (bs t) = ([], e3)) := by
            show _ = _
            have hno : ∀ x : ByteArray, (pathSpot (bs x)).1 ≠ 0 → isP (bs x) = false := fun x hx => by
              cases hh : isP (bs x) with
              | false => rfl
              | true => exact absurd ((isP_zero _).1 hh) hx
            have hf : firstP [bs p, bs q, bs t] = e3 := by
              unfold firstP; rw [H.out.2.1 (by omega)]
              unfold firstP; rw [H.out.2.2.1 (by omega)]
              unfold firstP; rw [hno t (by rw [← HE.out.2.2]; exact h0), HE.out.2.2]; rfl
            unfold moveP
            rw [hf, if_pos h0]
          go_wp2_with (go_at_call 13; refine (hz _).mono ?_; clear hz; rintro e w1 ⟨rfl, hB1⟩; have q0 := hbx w1 (e3 : Int) (d3 : Int))
          go_quiet (fail)
          go_wp2_with fail
          go_ret2
          rw [HR.out]
          exact ⟨rfl, below_drewN ((H.out.1.trans (hB1.mono H.out.1.size)).alloc (by have := H.out.1.size; have := hB1.size; omega) _) _⟩
    · obtain rfl : k = 3 := by omega
      have pp := H.out.2.1 (by omega)
      have pq := H.out.2.2.1 (by omega)
      have pt := H.out.2.2.2 (by omega)
      have hf0 : firstP [bs p, bs q, bs t] = 0 := by unfold firstP; rw [pp]; unfold firstP; rw [pq]; unfold firstP; rw [pt]; rfl
      have hr := refRest_any p q wr (by omega) (by omega)
      have hrs := restS_size p q
      have hj := fun w => refJoin_any t (restS p q) w (by omega) (by omega)
      have hin : inP (bs p) (bs q) = restB p q := by unfold inP restB; rw [pp, pq]; rfl
      rw [hin, pp, pq] at hr
      simp only [Bool.and_self, if_true] at hr
      cases hrp : restP (bs p) (bs q) with
      | none =>
        have hb : restB p q = false := by unfold restB; rw [hrp]; rfl
        have HR : Hid (moveP (bs p) (bs q) (bs t) = ([], 141)) := by
          show _ = _
          unfold moveP; rw [hf0, hrp]; rfl
        rw [hb] at hr
        clear hf0 hin hrp hb HE hx hy hz hj hrs
        generalize restS p q = S at hr
        go_wp2_with (go_at_call 25; refine hr.mono ?_; clear hr; rintro e w2 ⟨rfl, hB2⟩)
        go_ret2
        rw [HR.out]
        exact ⟨rfl, H.out.1.trans (hB2.mono H.out.1.size)⟩
      | some r =>
        have hb : restB p q = true := by unfold restB; rw [hrp]; rfl
        have hS : bs (restS p q) = r := by unfold restS; rw [hrp, bs_mk]; rfl
        have hpr := rest_path _ _ _ pp pq hrp
        have HR : Hid (moveP (bs p) (bs q) (bs t) = rjoinR (bs t) (bs (restS p q))) := by
          show _ = _
          unfold moveP rjoinR
          have hf2 : firstP [bs t, r] = 0 := by unfold firstP; rw [pt]; unfold firstP; rw [hpr]; rfl
          rw [hf0, hrp, hS, hf2]; rfl
        rw [hb] at hr
        obtain ⟨R1, hR1⟩ : ∃ R1, R1 = mk (rjoinR (bs t) (bs (restS p q))).1 := ⟨_, rfl⟩
        obtain ⟨R2, hR2⟩ : ∃ R2, R2 = (rjoinR (bs t) (bs (restS p q))).2 := ⟨_, rfl⟩
        rw [← hR1, ← hR2] at hj
        have HRR : Hid (R1 = mk (rjoinR (bs t) (bs (restS p q))).1 ∧ R2 = (rjoinR (bs t) (bs (restS p q))).2) := ⟨hR1, hR2⟩
        clear hf0 hin hrp hb HE hx hy hz hS hpr hR1 hR2
        obtain ⟨S, hSS⟩ : ∃ S, S = restS p q := ⟨_, rfl⟩
        rw [← hSS] at hr hj HR HRR
        clear hSS
        go_wp2_with first
          | (go_at_call 25; refine hr.mono ?_; clear hr; rintro e w2 ⟨rfl, hB2⟩)
          | (go_at_call 20; refine (hj _).mono ?_; clear hj; rintro e w3 ⟨rfl, hB3⟩)
        go_ret2
        rw [HR.out, ← HRR.out.1, ← HRR.out.2]
        have t2 := H.out.1.trans (hB2.mono H.out.1.size)
        exact ⟨rfl, t2.trans (hB3.mono t2.size)⟩
end Go.Proofs.YtadmpobnpnbgoaaDoor
