import Derived.Test.YtggnglgehobglaaGreatDoorP13
/- The walks of Image and Source (genpaths.py). -/
namespace Go.Proofs.YtggnglgehobglaaGreatDoor
open Go.RowKit Go.Shelf Go.Maps

attribute [local go_sem] Oper.semAt_some

/-- a path by what is told of rows, where that is a path, too: it, and the error -/
def thr (l : List UInt8) (R : Option (List UInt8)) : List UInt8 × Int := if isP l = false then ([], ((pathSpot l).1 : Int)) else match R with
  | none => ([], 4)
  | some x => if isP x then (x, 0) else ([], 3)

set_option maxRecDepth 100000 in
theorem through_image (w : World) (m : Nat) (F : List Ru) (s : ByteArray) (hM : MpAt w m F) (hs : s.size ≤ maxLen) :
    Calls Tryz.prog 24 #[.func (.func 25) #[.pointer (some ⟨m, 0, none⟩)] #[], .string s] w fun e w' => e = .returned (.tuple #[.string (mk (thr (bs s) (imgL F (bs s))).1), .int .i64 (thr (bs s) (imgL F (bs s))).2]) ∧ Below w.heap.size w w' := by
  have hp := path_any s w hs
  obtain ⟨e1, h1⟩ : ∃ e1, e1 = (pathSpot (bs s)).1 := ⟨_, rfl⟩
  obtain ⟨e2, h2⟩ : ∃ e2, e2 = (pathSpot (bs s)).2 := ⟨_, rfl⟩
  simp only [spotV] at hp
  rw [← h1, ← h2] at hp
  have HB2 : Hid (∀ W : World, Box2 (W.alloc (.cells #[.int .i64 (e1 : Int), .int .i64 (e2 : Int)] 48)) W.heap.size (.int .i64 (e1 : Int)) (.int .i64 (e2 : Int))) := fun W => Box2.new W _ _
  have HM : Hid (MpAt w m F) := hM
  clear hM
  cases hi : isP (bs s) with
  | false =>
    have HT : Hid (thr (bs s) (imgL F (bs s)) = ([], (e1 : Int))) := by show _ = _; unfold thr; rw [if_pos hi, h1]
    have hne : ¬ (e1 : Int) = 0 := fun e => by
      have : isP (bs s) = true := by unfold isP; rw [← h1, beq_iff_eq]; omega
      rw [hi] at this; cases this
    have hne2 : ((e1 : Int) == 0) = false := beq_eq_false_iff_ne.2 hne
    generalize (e1 : Int) = z1 at *
    generalize (e2 : Int) = z2 at *
    clear h1 h2 hi
    go_enter Tryz.func24, Tryz.ntmps24
    go_wp2_with fail
    refine hp.mono ?_
    clear hp
    rintro e w1 ⟨rfl, hB1⟩
    have HB : Hid (Below w.heap.size w (w1.alloc (.cells #[.int .i64 z1, .int .i64 z2] 48))) := hB1.alloc hB1.size _
    have hbx := HB2.out w1
    clear hB1
    go_upto_region 2 with fail
    generalize w1.alloc (.cells #[.int .i64 z1, .int .i64 z2] 48) = w2 at *
    generalize w1.heap.size = bx at *
    obtain ⟨d0, d1⟩ := hbx.cell
    clear hbx HB2
    go_upto_region 3 with fail
    have hmx : Tryz.prog.follows .mixedOrders = true := by kernel_rfl
    refine wp_region_G (S := SB 1000 (fun _ => True) (fun W => W.cell? ⟨bx, 0, none⟩ = some (.int .i64 z1))) hmx ?_
    have hSB : SB 1000 (fun _ => True) (fun W => W.cell? ⟨bx, 0, none⟩ = some (.int .i64 z1)) (Array.replicate 4 false) w2.drew := SB.off (by kernel_rfl) d0
    refine wpAnyG_takeP (i := 0) (v := ?_) rfl (by kernel_rfl) (by kernel_rfl) (by kernel_rfl) (fun _ _ _ h => h) rfl (Or.inl ⟨by rfl, ?_⟩) (by assumption) ?_
    rotate_left
    · intro Y hY; go_simp; try with_reducible rfl
    intro hSB0
    try simp only [Act.put, List.getElem_toArray, List.getElem_cons_zero, List.setIfInBounds_toArray, List.set_cons_zero, List.set_cons_succ]
    refine wpAnyG_takeP (i := 1) (v := ?_) rfl (by kernel_rfl) (by kernel_rfl) (by kernel_rfl) (fun _ _ _ h => h) rfl (Or.inl ⟨by rfl, ?_⟩) (by assumption) ?_
    rotate_left
    · intro Y hY; go_simp; try with_reducible rfl
    intro hSB1
    try simp only [Act.put, List.getElem_toArray, List.getElem_cons_zero, List.getElem_cons_succ, List.setIfInBounds_toArray, List.set_cons_zero, List.set_cons_succ]
    refine wpAnyG_takeP (i := 2) (v := ?_) rfl (by kernel_rfl) (by kernel_rfl) (by kernel_rfl) (fun _ _ _ h => h) rfl (Or.inl ⟨by rfl, ?_⟩) (by assumption) ?_
    rotate_left
    · intro Y hY; go_simp; try with_reducible rfl
    intro hSB2
    try simp only [Act.put, List.getElem_toArray, List.getElem_cons_zero, List.getElem_cons_succ, List.setIfInBounds_toArray, List.set_cons_zero, List.set_cons_succ]
    refine wpAnyG_takeP (i := 3) (v := ?_) rfl (by kernel_rfl) (by kernel_rfl) (by kernel_rfl) (fun _ _ _ h => h) rfl (Or.inl ⟨by rfl, ?_⟩) (by assumption) ?_
    rotate_left
    · intro Y hY; go_simp; try with_reducible rfl
    intro hSB3
    try simp only [Act.put, List.getElem_toArray, List.getElem_cons_zero, List.getElem_cons_succ, List.setIfInBounds_toArray, List.set_cons_zero, List.set_cons_succ]
    refine wpAnyG_done (by kernel_rfl) ?_ _
    have HBd : Hid (Below w.heap.size w w2.drew) := HB.out.trans ⟨rfl, rfl, rfl, Nat.le_refl _, fun _ _ => rfl⟩
    clear hSB hSB0 hSB1 hSB2 hSB3 d0 d1
    go_wp2
    go_ret2
    exact ⟨by rw [HT.out]; rfl, HBd.out⟩
  | true =>
    have hz : e1 = 0 := by
      have := hi
      unfold isP at this
      rw [← h1, beq_iff_eq] at this
      exact this
    subst hz
    have hsz : s.size ≤ 200 := by rw [← bs_len]; exact isP_len hi
    have HT : Hid (thr (bs s) (imgL F (bs s)) = match imgL F (bs s) with | none => ([], 4) | some x => if isP x then (x, 0) else ([], 3)) := by show _ = _; unfold thr; rw [if_neg (by rw [hi]; decide)]
    have hth := fun W hM => image_any W m F s hM (by omega)
    have hRl : ∀ x, imgL F (bs s) = some x → x.length ≤ 1000000 := fun x hx => imgL_len HM.out.ok hx (by rw [bs_len]; exact hsz)
    generalize imgL F (bs s) = R at *
    generalize (e2 : Int) = z2 at *
    clear h1 h2 hi
    cases R with
    | none =>
      go_enter Tryz.func24, Tryz.ntmps24
      go_wp2_with fail
      refine hp.mono ?_
      clear hp
      rintro e w1 ⟨rfl, hB1⟩
      have HB : Hid (Below w.heap.size w (w1.alloc (.cells #[.int .i64 0, .int .i64 z2] 48))) := hB1.alloc hB1.size _
      have hbx : Box2 (w1.alloc (.cells #[.int .i64 0, .int .i64 z2] 48)) w1.heap.size (.int .i64 0) (.int .i64 z2) := Box2.new w1 _ _
      clear hB1
      go_upto_region 2 with fail
      generalize w1.alloc (.cells #[.int .i64 0, .int .i64 z2] 48) = w2 at *
      generalize w1.heap.size = bx at *
      obtain ⟨d0, d1⟩ := hbx.cell
      have hth2 := hth w2 (HM.out.below HB.out)
      clear hbx HB2 hth
      go_wp2_with fail
      refine hth2.mono ?_
      clear hth2 d0 d1
      rintro e w3 ⟨rfl, hB3⟩
      have HB3 : Hid (Below w.heap.size w w3) := HB.out.trans (hB3.mono HB.out.size)
      clear hB3
      go_wp2
      go_ret2
      exact ⟨by rw [HT.out]; rfl, HB3.out⟩
    | some x =>
      have hxl := hRl x rfl
      obtain ⟨X, hX⟩ : ∃ X, X = mk x := ⟨_, rfl⟩
      have hXb : bs X = x := by rw [hX, bs_mk]
      have hXs : X.size ≤ maxLen := by unfold maxLen; rw [← bs_len, hXb]; omega
      simp only [Option.getD_some, Option.isSome_some] at hth
      rw [← hX] at hth
      have hip := fun W => misPath_any X W hXs
      rw [hXb] at hip
      have HX : Hid (X = mk x) := hX
      go_enter Tryz.func24, Tryz.ntmps24
      go_wp2_with fail
      refine hp.mono ?_
      clear hp
      rintro e w1 ⟨rfl, hB1⟩
      have HB : Hid (Below w.heap.size w (w1.alloc (.cells #[.int .i64 0, .int .i64 z2] 48))) := hB1.alloc hB1.size _
      have hbx : Box2 (w1.alloc (.cells #[.int .i64 0, .int .i64 z2] 48)) w1.heap.size (.int .i64 0) (.int .i64 z2) := Box2.new w1 _ _
      clear hB1 hX hXb hXs hRl
      go_upto_region 2 with fail
      generalize w1.alloc (.cells #[.int .i64 0, .int .i64 z2] 48) = w2 at *
      generalize w1.heap.size = bx at *
      obtain ⟨d0, d1⟩ := hbx.cell
      have hth2 := hth w2 (HM.out.below HB.out)
      clear hbx HB2 hth
      go_wp2_with fail
      refine hth2.mono ?_
      clear hth2 d0 d1
      rintro e w3 ⟨rfl, hB3⟩
      have HB3 : Hid (Below w.heap.size w w3) := HB.out.trans (hB3.mono HB.out.size)
      clear hB3
      go_wp2_with fail
      refine (hip _).mono ?_
      clear hip
      rintro e w4 ⟨rfl, hB4⟩
      have HB4 : Hid (Below w.heap.size w w4) := HB3.out.trans (hB4.mono HB3.out.size)
      clear hB4
      cases hpx : isP x with
      | true =>
        have HT2 : Hid (thr (bs s) (some x) = (x, 0)) := by show _ = _; rw [HT.out]; simp only [hpx, if_true]
        clear HT hpx
        go_wp2
        go_ret2
        exact ⟨by rw [HT2.out, HX.out]; rfl, HB4.out⟩
      | false =>
        have HT2 : Hid (thr (bs s) (some x) = ([], 3)) := by show _ = _; rw [HT.out]; simp only [hpx, Bool.false_eq_true, if_false]
        clear HT hpx
        go_wp2
        go_ret2
        exact ⟨by rw [HT2.out]; rfl, HB4.out⟩
theorem Iimage_any (w : World) (m : Nat) (F : List Ru) (s : ByteArray) (hM : MpAt w m F) (hs : s.size ≤ maxLen) :
    Calls Tryz.prog 8 #[.pointer (some ⟨m, 0, none⟩), .string s] w fun e w' => e = .returned (.tuple #[.string (mk (thr (bs s) (imgL F (bs s))).1), .int .i64 (thr (bs s) (imgL F (bs s))).2]) ∧ Below w.heap.size w w' := by
  have h := through_image w m F s hM hs
  generalize thr (bs s) (imgL F (bs s)) = R at *
  obtain ⟨x, e⟩ := R
  simp only at h ⊢
  generalize mk x = X at *
  clear hM
  go_enter Tryz.func8, Tryz.ntmps8
  go_wp2_with (go_at_call 24; refine h.mono ?_; clear h; rintro e1 w1 ⟨rfl, hB1⟩)
  go_ret2
  exact ⟨rfl, hB1⟩
theorem Iimage_nil (w : World) (s : ByteArray) :
    Calls Tryz.prog 8 #[.pointer none, .string s] w fun e w' => e = .returned (.tuple #[.string ⟨#[]⟩, .int .i64 1]) ∧ w' = w := by
  go_enter Tryz.func8, Tryz.ntmps8
  go_wp2
  go_ret2
  exact ⟨rfl, rfl⟩

set_option maxRecDepth 100000 in
theorem through_source (w : World) (m : Nat) (F : List Ru) (s : ByteArray) (hM : MpAt w m F) (hs : s.size ≤ maxLen) :
    Calls Tryz.prog 24 #[.func (.func 26) #[.pointer (some ⟨m, 0, none⟩)] #[], .string s] w fun e w' => e = .returned (.tuple #[.string (mk (thr (bs s) (srcL F (bs s))).1), .int .i64 (thr (bs s) (srcL F (bs s))).2]) ∧ Below w.heap.size w w' := by
  have hp := path_any s w hs
  obtain ⟨e1, h1⟩ : ∃ e1, e1 = (pathSpot (bs s)).1 := ⟨_, rfl⟩
  obtain ⟨e2, h2⟩ : ∃ e2, e2 = (pathSpot (bs s)).2 := ⟨_, rfl⟩
  simp only [spotV] at hp
  rw [← h1, ← h2] at hp
  have HB2 : Hid (∀ W : World, Box2 (W.alloc (.cells #[.int .i64 (e1 : Int), .int .i64 (e2 : Int)] 48)) W.heap.size (.int .i64 (e1 : Int)) (.int .i64 (e2 : Int))) := fun W => Box2.new W _ _
  have HM : Hid (MpAt w m F) := hM
  clear hM
  cases hi : isP (bs s) with
  | false =>
    have HT : Hid (thr (bs s) (srcL F (bs s)) = ([], (e1 : Int))) := by show _ = _; unfold thr; rw [if_pos hi, h1]
    have hne : ¬ (e1 : Int) = 0 := fun e => by
      have : isP (bs s) = true := by unfold isP; rw [← h1, beq_iff_eq]; omega
      rw [hi] at this; cases this
    have hne2 : ((e1 : Int) == 0) = false := beq_eq_false_iff_ne.2 hne
    generalize (e1 : Int) = z1 at *
    generalize (e2 : Int) = z2 at *
    clear h1 h2 hi
    go_enter Tryz.func24, Tryz.ntmps24
    go_wp2_with fail
    refine hp.mono ?_
    clear hp
    rintro e w1 ⟨rfl, hB1⟩
    have HB : Hid (Below w.heap.size w (w1.alloc (.cells #[.int .i64 z1, .int .i64 z2] 48))) := hB1.alloc hB1.size _
    have hbx := HB2.out w1
    clear hB1
    go_upto_region 2 with fail
    generalize w1.alloc (.cells #[.int .i64 z1, .int .i64 z2] 48) = w2 at *
    generalize w1.heap.size = bx at *
    obtain ⟨d0, d1⟩ := hbx.cell
    clear hbx HB2
    go_upto_region 3 with fail
    have hmx : Tryz.prog.follows .mixedOrders = true := by kernel_rfl
    refine wp_region_G (S := SB 1000 (fun _ => True) (fun W => W.cell? ⟨bx, 0, none⟩ = some (.int .i64 z1))) hmx ?_
    have hSB : SB 1000 (fun _ => True) (fun W => W.cell? ⟨bx, 0, none⟩ = some (.int .i64 z1)) (Array.replicate 4 false) w2.drew := SB.off (by kernel_rfl) d0
    refine wpAnyG_takeP (i := 0) (v := ?_) rfl (by kernel_rfl) (by kernel_rfl) (by kernel_rfl) (fun _ _ _ h => h) rfl (Or.inl ⟨by rfl, ?_⟩) (by assumption) ?_
    rotate_left
    · intro Y hY; go_simp; try with_reducible rfl
    intro hSB0
    try simp only [Act.put, List.getElem_toArray, List.getElem_cons_zero, List.setIfInBounds_toArray, List.set_cons_zero, List.set_cons_succ]
    refine wpAnyG_takeP (i := 1) (v := ?_) rfl (by kernel_rfl) (by kernel_rfl) (by kernel_rfl) (fun _ _ _ h => h) rfl (Or.inl ⟨by rfl, ?_⟩) (by assumption) ?_
    rotate_left
    · intro Y hY; go_simp; try with_reducible rfl
    intro hSB1
    try simp only [Act.put, List.getElem_toArray, List.getElem_cons_zero, List.getElem_cons_succ, List.setIfInBounds_toArray, List.set_cons_zero, List.set_cons_succ]
    refine wpAnyG_takeP (i := 2) (v := ?_) rfl (by kernel_rfl) (by kernel_rfl) (by kernel_rfl) (fun _ _ _ h => h) rfl (Or.inl ⟨by rfl, ?_⟩) (by assumption) ?_
    rotate_left
    · intro Y hY; go_simp; try with_reducible rfl
    intro hSB2
    try simp only [Act.put, List.getElem_toArray, List.getElem_cons_zero, List.getElem_cons_succ, List.setIfInBounds_toArray, List.set_cons_zero, List.set_cons_succ]
    refine wpAnyG_takeP (i := 3) (v := ?_) rfl (by kernel_rfl) (by kernel_rfl) (by kernel_rfl) (fun _ _ _ h => h) rfl (Or.inl ⟨by rfl, ?_⟩) (by assumption) ?_
    rotate_left
    · intro Y hY; go_simp; try with_reducible rfl
    intro hSB3
    try simp only [Act.put, List.getElem_toArray, List.getElem_cons_zero, List.getElem_cons_succ, List.setIfInBounds_toArray, List.set_cons_zero, List.set_cons_succ]
    refine wpAnyG_done (by kernel_rfl) ?_ _
    have HBd : Hid (Below w.heap.size w w2.drew) := HB.out.trans ⟨rfl, rfl, rfl, Nat.le_refl _, fun _ _ => rfl⟩
    clear hSB hSB0 hSB1 hSB2 hSB3 d0 d1
    go_wp2
    go_ret2
    exact ⟨by rw [HT.out]; rfl, HBd.out⟩
  | true =>
    have hz : e1 = 0 := by
      have := hi
      unfold isP at this
      rw [← h1, beq_iff_eq] at this
      exact this
    subst hz
    have hsz : s.size ≤ 200 := by rw [← bs_len]; exact isP_len hi
    have HT : Hid (thr (bs s) (srcL F (bs s)) = match srcL F (bs s) with | none => ([], 4) | some x => if isP x then (x, 0) else ([], 3)) := by show _ = _; unfold thr; rw [if_neg (by rw [hi]; decide)]
    have hth := fun W hM => source_any W m F s hM (by omega)
    have hRl : ∀ x, srcL F (bs s) = some x → x.length ≤ 1000000 := fun x hx => srcL_len HM.out.ok hx (by rw [bs_len]; exact hsz)
    generalize srcL F (bs s) = R at *
    generalize (e2 : Int) = z2 at *
    clear h1 h2 hi
    cases R with
    | none =>
      go_enter Tryz.func24, Tryz.ntmps24
      go_wp2_with fail
      refine hp.mono ?_
      clear hp
      rintro e w1 ⟨rfl, hB1⟩
      have HB : Hid (Below w.heap.size w (w1.alloc (.cells #[.int .i64 0, .int .i64 z2] 48))) := hB1.alloc hB1.size _
      have hbx : Box2 (w1.alloc (.cells #[.int .i64 0, .int .i64 z2] 48)) w1.heap.size (.int .i64 0) (.int .i64 z2) := Box2.new w1 _ _
      clear hB1
      go_upto_region 2 with fail
      generalize w1.alloc (.cells #[.int .i64 0, .int .i64 z2] 48) = w2 at *
      generalize w1.heap.size = bx at *
      obtain ⟨d0, d1⟩ := hbx.cell
      have hth2 := hth w2 (HM.out.below HB.out)
      clear hbx HB2 hth
      go_wp2_with fail
      refine hth2.mono ?_
      clear hth2 d0 d1
      rintro e w3 ⟨rfl, hB3⟩
      have HB3 : Hid (Below w.heap.size w w3) := HB.out.trans (hB3.mono HB.out.size)
      clear hB3
      go_wp2
      go_ret2
      exact ⟨by rw [HT.out]; rfl, HB3.out⟩
    | some x =>
      have hxl := hRl x rfl
      obtain ⟨X, hX⟩ : ∃ X, X = mk x := ⟨_, rfl⟩
      have hXb : bs X = x := by rw [hX, bs_mk]
      have hXs : X.size ≤ maxLen := by unfold maxLen; rw [← bs_len, hXb]; omega
      simp only [Option.getD_some, Option.isSome_some] at hth
      rw [← hX] at hth
      have hip := fun W => misPath_any X W hXs
      rw [hXb] at hip
      have HX : Hid (X = mk x) := hX
      go_enter Tryz.func24, Tryz.ntmps24
      go_wp2_with fail
      refine hp.mono ?_
      clear hp
      rintro e w1 ⟨rfl, hB1⟩
      have HB : Hid (Below w.heap.size w (w1.alloc (.cells #[.int .i64 0, .int .i64 z2] 48))) := hB1.alloc hB1.size _
      have hbx : Box2 (w1.alloc (.cells #[.int .i64 0, .int .i64 z2] 48)) w1.heap.size (.int .i64 0) (.int .i64 z2) := Box2.new w1 _ _
      clear hB1 hX hXb hXs hRl
      go_upto_region 2 with fail
      generalize w1.alloc (.cells #[.int .i64 0, .int .i64 z2] 48) = w2 at *
      generalize w1.heap.size = bx at *
      obtain ⟨d0, d1⟩ := hbx.cell
      have hth2 := hth w2 (HM.out.below HB.out)
      clear hbx HB2 hth
      go_wp2_with fail
      refine hth2.mono ?_
      clear hth2 d0 d1
      rintro e w3 ⟨rfl, hB3⟩
      have HB3 : Hid (Below w.heap.size w w3) := HB.out.trans (hB3.mono HB.out.size)
      clear hB3
      go_wp2_with fail
      refine (hip _).mono ?_
      clear hip
      rintro e w4 ⟨rfl, hB4⟩
      have HB4 : Hid (Below w.heap.size w w4) := HB3.out.trans (hB4.mono HB3.out.size)
      clear hB4
      cases hpx : isP x with
      | true =>
        have HT2 : Hid (thr (bs s) (some x) = (x, 0)) := by show _ = _; rw [HT.out]; simp only [hpx, if_true]
        clear HT hpx
        go_wp2
        go_ret2
        exact ⟨by rw [HT2.out, HX.out]; rfl, HB4.out⟩
      | false =>
        have HT2 : Hid (thr (bs s) (some x) = ([], 3)) := by show _ = _; rw [HT.out]; simp only [hpx, Bool.false_eq_true, if_false]
        clear HT hpx
        go_wp2
        go_ret2
        exact ⟨by rw [HT2.out]; rfl, HB4.out⟩
theorem Isource_any (w : World) (m : Nat) (F : List Ru) (s : ByteArray) (hM : MpAt w m F) (hs : s.size ≤ maxLen) :
    Calls Tryz.prog 9 #[.pointer (some ⟨m, 0, none⟩), .string s] w fun e w' => e = .returned (.tuple #[.string (mk (thr (bs s) (srcL F (bs s))).1), .int .i64 (thr (bs s) (srcL F (bs s))).2]) ∧ Below w.heap.size w w' := by
  have h := through_source w m F s hM hs
  generalize thr (bs s) (srcL F (bs s)) = R at *
  obtain ⟨x, e⟩ := R
  simp only at h ⊢
  generalize mk x = X at *
  clear hM
  go_enter Tryz.func9, Tryz.ntmps9
  go_wp2_with (go_at_call 24; refine h.mono ?_; clear h; rintro e1 w1 ⟨rfl, hB1⟩)
  go_ret2
  exact ⟨rfl, hB1⟩
theorem Isource_nil (w : World) (s : ByteArray) :
    Calls Tryz.prog 9 #[.pointer none, .string s] w fun e w' => e = .returned (.tuple #[.string ⟨#[]⟩, .int .i64 1]) ∧ w' = w := by
  go_enter Tryz.func9, Tryz.ntmps9
  go_wp2
  go_ret2
  exact ⟨rfl, rfl⟩
end Go.Proofs.YtggnglgehobglaaGreatDoor

/- Two operations that are ready in a region that draws. -/
namespace Go.Proofs.YtggnglgehobglaaGreatDoor

section
variable {P : Program} {ops : Array Oper} {Q : Exit → Act → World → Prop} {md : Region.Mode} {S : Array Bool → World → Prop}
theorem wpAnyG_two {i j : Nat} {o o2 : Oper} {fuel : Nat} {listed : Array Bool} {a : Act} {w : World} (hr : Region.ready md ops listed = [i, j]) (ho : ops[i]? = some o) (ho2 : ops[j]? = some o2)
    (h : ∀ K' : Act → World → Prop, Shut (∀ a w, S (listed.setIfInBounds i true) w → (S (listed.setIfInBounds i true) w → wpAnyG P md ops Q S fuel (listed.setIfInBounds i true) a w) → K' a w) → if Region.wanted o (yielded ops a.tmps) = true then Oper.wp P o a w K' Q else K' (a.put o.dst undef) w)
    (h2 : ∀ K' : Act → World → Prop, Shut (∀ a w, S (listed.setIfInBounds j true) w → (S (listed.setIfInBounds j true) w → wpAnyG P md ops Q S fuel (listed.setIfInBounds j true) a w) → K' a w) → if Region.wanted o2 (yielded ops a.tmps) = true then Oper.wp P o2 a w K' Q else K' (a.put o2.dst undef) w) : wpAnyG P md ops Q S (fuel + 1) listed a w :=
  wpAnyG_ready hr (by simp) fun q hq => by
    rcases List.mem_cons.1 hq with e | e
    · subst e; exact wpOp_step ho (fun K' hK => h K' (fun a w hS hW => hK a w ⟨hS, hW hS⟩))
    · have e2 := List.mem_singleton.1 e
      subst e2
      exact wpOp_step ho2 (fun K' hK => h2 K' (fun a w hS hW => hK a w ⟨hS, hW hS⟩))
end
end Go.Proofs.YtggnglgehobglaaGreatDoor
