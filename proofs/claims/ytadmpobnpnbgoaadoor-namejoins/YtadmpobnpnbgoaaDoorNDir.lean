/- The walk of Dir. -/
import Derived.Test.YtadmpobnpnbgoaaDoorNMake
import Derived.Test.YtadmpobnpnbgoaaDoorNCommon
namespace Go.Proofs.YtadmpobnpnbgoaaDoor
open Go.RowKit Go.Shelf

attribute [local go_sem] Oper.semAt_some

/-- does it end by a stroke? -/
def endS (l : List UInt8) : Bool := l.getLast? == some 47
theorem endS_iff (l : List UInt8) : endS l = true ↔ ∃ k, l = k ++ [47] := by
  unfold endS
  rw [beq_iff_eq]
  constructor
  · intro h
    have hn : l ≠ [] := by rintro rfl; simp at h
    rw [List.getLast?_eq_some_getLast hn] at h
    exact ⟨l.dropLast, by rw [← Option.some.inj h, List.dropLast_concat_getLast hn]⟩
  · rintro ⟨k, rfl⟩; simp
theorem lite_suffix (s : ByteArray) (v : Bool) (hv : endS (bs s) = v) (w : World) (hs : s.size ≤ 1000000) :
    Calls Tryd.prog 67 #[.string s, .string ⟨#[47]⟩] w fun e w' => e = .returned (.bool v) ∧ w' = w := by
  by_cases h0 : 1 ≤ s.size
  · have i0 : (1 : Int) ≤ s.size := by omega
    have H : Hid (((s.extract (s.size - 1) s.size).toList == [47]) = v) := by
      show _ = _
      rw [toList_bs, bs_extract, ← hv, ← bs_len, List.take_length, Bool.eq_iff_iff, beq_iff_eq, endS_iff]
      constructor
      · intro h; exact ⟨_, by rw [← h, List.take_append_drop]⟩
      · rintro ⟨l, h⟩; rw [h]; simp
    go_enter Tryd.func67, Tryd.ntmps67
    go_wp2
    go_ret
    exact ⟨by rw [← H.out]; rfl, rfl⟩
  · have i0 : ¬ (1 : Int) ≤ s.size := by omega
    have H : Hid (v = false) := by
      show _ = _
      rw [← hv, Bool.eq_false_iff]
      intro hh
      obtain ⟨l, h⟩ := (endS_iff _).1 hh
      have := congrArg List.length h
      rw [bs_len] at this
      simp at this; omega
    go_enter Tryd.func67, Tryd.ntmps67
    go_wp2
    go_ret
    exact ⟨by rw [H.out]; rfl, rfl⟩
/-- a text without its last stroke -/
def trimS (s : ByteArray) : ByteArray := if endS (bs s) then s.extract 0 (s.size - 1) else s
theorem lite_trim (s : ByteArray) (w : World) (hs : s.size ≤ 1000000) :
    Calls Tryd.prog 54 #[.string s, .string ⟨#[47]⟩] w fun e w' => e = .returned (.string (trimS s)) ∧ w' = w := by
  unfold trimS
  by_cases h : endS (bs s) = true
  · have hx := lite_suffix s true h w hs
    have h1 : 1 ≤ s.size := by obtain ⟨l, h⟩ := (endS_iff _).1 h; rw [← bs_len, h]; simp
    have i1 : (1 : Int) ≤ s.size := by omega
    rw [if_pos h]
    clear h
    go_enter Tryd.func54, Tryd.ntmps54
    go_wp2_with (go_at_call 67; refine hx.mono ?_; clear hx; rintro e w1 ⟨rfl, rfl⟩)
    go_ret
    exact ⟨rfl, rfl⟩
  · have hx := lite_suffix s false (by simpa using h) w hs
    rw [if_neg h]
    clear h
    go_enter Tryd.func54, Tryd.ntmps54
    go_wp2_with (go_at_call 67; refine hx.mono ?_; clear hx; rintro e w1 ⟨rfl, rfl⟩)
    go_ret
    exact ⟨rfl, rfl⟩
theorem trim_any (s : ByteArray) (w : World) (hs : s.size ≤ 1000000) :
    Calls Tryd.prog 42 #[.string s, .string ⟨#[47]⟩] w fun e w' => e = .returned (.string (trimS s)) ∧ w' = w := by
  have hx := lite_trim s w hs
  generalize trimS s = T at hx ⊢
  go_enter Tryd.func42, Tryd.ntmps42
  go_wp2_with (go_at_call 54; refine hx.mono ?_; clear hx; rintro e w1 ⟨rfl, rfl⟩)
  go_ret
  exact ⟨rfl, rfl⟩
theorem trimS_yes (s : ByteArray) (l : List UInt8) (h : bs s = l ++ [47]) : trimS s = mk l := by
  unfold trimS
  rw [if_pos ((endS_iff _).2 ⟨l, h⟩)]
  apply bs_inj
  rw [bs_extract, bs_mk, h, ← bs_len, h, List.drop_zero]
  simp
theorem trimS_no (s : ByteArray) (h : bs s = []) : trimS s = mk [] := by
  unfold trimS
  rw [if_neg (fun hh => by obtain ⟨l, e⟩ := (endS_iff _).1 hh; rw [h] at e; simp at e)]
  apply bs_inj
  rw [h, bs_mk]

/-- a path's folder and last name, or what is wrong -/
def dirP (l : List UInt8) : List UInt8 × List UInt8 × Nat := if isP l then (if l = [] then ([], [], 141) else (glue (parts l).dropLast, (parts l).getLastD [], 0)) else ([], [], (pathSpot l).1)

/-- the place of the last piece -/
def lastAt {s : ByteArray} (pre : List (Pc s)) : Nat := match pre.getLast? with
  | none => 0
  | some x => x.1.1
theorem lastAt_snoc {s : ByteArray} (pre : List (Pc s)) (x : Pc s) : lastAt (pre ++ [x]) = x.1.1 := by
  unfold lastAt; rw [List.getLast?_concat]
theorem lastAt_le {s : ByteArray} (pre : List (Pc s)) : lastAt pre ≤ s.size := by
  unfold lastAt
  split
  · omega
  · rename_i x _; have := x.2; omega
theorem last_split {s : ByteArray} {xs : List (Pc s)} (hs : xs.map Pc.at = pcs (bs s)) (h0 : bs s ≠ []) :
    trimS (s.extract 0 (lastAt xs)) = mk (glue (parts (bs s)).dropLast) ∧ s.extract (lastAt xs) s.size = mk ((parts (bs s)).getLastD []) := by
  have hp := parts_ne h0
  obtain ⟨ns, n, hns⟩ : ∃ ns n, parts (bs s) = ns ++ [n] := ⟨_, _, (List.dropLast_concat_getLast hp).symm⟩
  have hx : xs ≠ [] := by
    rintro rfl
    have := congrArg List.length hs
    rw [pcs_len, hns] at this; simp at this
  obtain ⟨q, x, rfl⟩ : ∃ q x, xs = q ++ [x] := ⟨_, _, (List.dropLast_concat_getLast hx).symm⟩
  have hq : q.length = ns.length := by
    have := congrArg List.length hs
    rw [pcs_len, hns] at this; simpa using this
  have hk : (pcs (bs s))[ns.length]? = some (Pc.at x) := by rw [← hs, ← hq]; simp
  unfold pcs at hk
  rw [offs_get, hns] at hk
  simp only [List.getElem?_concat_length, Option.map_some, Nat.zero_add, Option.some.injEq] at hk
  have hx1 : x.1.1 = if ns.length = 0 then 0 else (glue ns).length + 1 := by
    have e := (congrArg Prod.fst hk).symm
    simp only [List.take_left] at e
    exact e
  have hbs : bs s = glue (ns ++ [n]) := by rw [← hns, glue_parts]
  rw [lastAt_snoc, hns, List.dropLast_concat, List.getLastD_concat]
  by_cases h1 : ns = []
  · subst h1
    rw [hx1]
    simp only [List.length_nil, if_true]
    refine ⟨?_, ?_⟩
    · rw [trimS_no _ (by rw [bs_extract]; simp)]; rfl
    · apply bs_inj
      rw [bs_extract, ← bs_len, List.take_length, List.drop_zero, bs_mk, hbs]
      simp [glue_one]
  · have hl : ns.length ≠ 0 := by simpa using h1
    rw [hx1, if_neg hl]
    rw [glue_append _ _ h1 (by simp), glue_one] at hbs
    refine ⟨?_, ?_⟩
    · refine trimS_yes _ _ ?_
      rw [bs_extract, hbs, List.drop_zero]
      rw [show glue ns ++ 47 :: n = (glue ns ++ [47]) ++ n by simp]
      rw [List.take_left' (by simp)]
    · apply bs_inj
      rw [bs_extract, ← bs_len, List.take_length, bs_mk, hbs]
      rw [show glue ns ++ 47 :: n = (glue ns ++ [47]) ++ n by simp]
      rw [List.drop_left' (by simp)]

structure DirI {s : ByteArray} (w : World) (c p : Nat) (pre : List (Pc s)) (W : World) : Prop where
  fc : Boxed W c 3 (.int .i64 (lastAt pre : Int))
  fp : Boxed W p 9 (.string s)
  fw : Below w.heap.size w W
theorem dirI_own {s : ByteArray} (w : World) (c p b0 : Nat) (h0 : w.heap.size ≤ b0) : OwnFrom b0 (DirI (s := s) w c p) := fun _ _ _ _ hs hg hr =>
  ⟨boxed_keep hs.fc hg hr, boxed_keep hs.fp hg hr, below_keep hs.fw (Nat.le_refl _) h0 hg hr⟩

theorem ret3_m {n : Nat} {f : Func} {W : World} {v : Value} {tmps : Array Value} {P : Ending → World → Prop} (hr : (results f tmps).run Tryd.prog W = .ok v W) (hP : P (.returned v) W) :
    bodyPostM Fence.wide n Tryd.prog f P Exit.ret { tmps := tmps, defers := [] } W := ⟨v, hr, hP⟩

set_option maxRecDepth 100000 in
set_option maxHeartbeats 4000000 in
theorem Dir_any (s : ByteArray) (w : World) (hs' : s.size ≤ 200000) :
    Calls Tryd.prog 21 #[.string s] w fun e w' => e = .returned (.tuple #[.string (mk (dirP (bs s)).1), .string (mk (dirP (bs s)).2.1), .int .i64 ((dirP (bs s)).2.2 : Int)]) ∧ Below w.heap.size w w' := by
  have hs : s.size ≤ maxLen := by unfold maxLen; omega
  have hp := path_any s w hs
  obtain ⟨e1, h1⟩ : ∃ e1, e1 = (pathSpot (bs s)).1 := ⟨_, rfl⟩
  obtain ⟨e2, h2⟩ : ∃ e2, e2 = (pathSpot (bs s)).2 := ⟨_, rfl⟩
  simp only [spotV] at hp
  rw [← h1, ← h2] at hp
  have H1 : Hid (e1 = (pathSpot (bs s)).1) := h1
  clear h1 h2
  refine (callsIn_wide (n := 5)).1 ?_
  refine callsIn_of_wp_marks Tryd.func21 rfl trivial ?_ rfl
  simp only [Tryd.ntmps21, List.size_toArray, List.length_cons, List.length_nil, Nat.reduceAdd, Nat.reduceSub, Array.replicate_succ, Array.replicate_zero, List.push_toArray, List.append_toArray, List.nil_append, List.cons_append]
  refine wpIn_wide.2 ?_
  by_cases h0 : e1 = 0
  · subst h0
    have hI : isP (bs s) = true := by unfold isP; rw [← H1.out]; rfl
    by_cases hz : s.toList = []
    · have HE : Hid (dirP (bs s) = ([], [], 141)) := by show _ = _; unfold dirP; rw [hI, if_pos rfl, if_pos ((toList_bs s).symm.trans hz)]
      clear hI
      go_wp2_with (go_at_call 12; refine hp.mono ?_; clear hp; rintro e w1 ⟨rfl, hB1⟩; obtain ⟨q0, q1⟩ := box2_at w1 (.int .i64 0) (.int .i64 (e2 : Int)))
      refine ret3_m (v := .tuple #[.string ⟨#[]⟩, .string ⟨#[]⟩, .int .i64 141]) (by simp [results, Tryd.results21, go_sem]) ⟨by rw [HE.out]; rfl, ?_⟩
      exact hB1.alloc hB1.size _
    · have b1 : s.toList.isEmpty = false := by simpa using hz
      have n1 : bs s ≠ [] := by rw [← toList_bs]; exact hz
      have HE : Hid (dirP (bs s) = (glue (parts (bs s)).dropLast, (parts (bs s)).getLastD [], 0) ∧ bs s ≠ []) := ⟨by unfold dirP; rw [hI, if_pos rfl, if_neg n1], n1⟩
      clear hI n1 H1
      go_wp2_with first
        | (go_at_call 12; refine hp.mono ?_; clear hp; rintro e w1 ⟨rfl, hB1⟩; obtain ⟨q0, q1⟩ := box2_at w1 (.int .i64 0) (.int .i64 (e2 : Int)))
        | (go_at_call 35; refine (pieces_any s _).mono ?_; rintro e w' ⟨rfl, rfl⟩)
      clear q0 q1
      obtain ⟨w4, hw4⟩ : ∃ w4, w4 = ((w1.alloc (.cells #[.int .i64 0, .int .i64 (e2 : Int)] 26)).alloc (.cells #[.int .i64 0] 3)).alloc (.cells #[.string s] 9) := ⟨_, rfl⟩
      have hm1 : w.heap.size ≤ w1.heap.size := hB1.size
      have hs4 : w4.heap.size = w1.heap.size + 3 := by rw [hw4]; simp
      have hB4 : Below w.heap.size w w4 := by
        rw [hw4]; exact ((hB1.alloc hB1.size _).alloc (by simp; omega) _).alloc (by simp; omega) _
      have bC : Boxed w4 (w1.heap.size + 1) 3 (.int .i64 0) := by
        have := (Boxed.new (w1.alloc (.cells #[.int .i64 0, .int .i64 (e2 : Int)] 26)) 3 (.int .i64 0)).alloc (.cells #[.string s] 9)
        rw [World.size_alloc] at this
        rw [hw4]; exact this
      have bP : Boxed w4 (w1.heap.size + 1 + 1) 9 (.string s) := by
        have := Boxed.new ((w1.alloc (.cells #[.int .i64 0, .int .i64 (e2 : Int)] 26)).alloc (.cells #[.int .i64 0] 3)) 9 (.string s)
        rw [World.size_alloc, World.size_alloc] at this
        rw [hw4]; exact this
      rw [← hw4]
      clear hw4 hB1
      obtain ⟨N, hN⟩ : ∃ N, N = w1.heap.size := ⟨_, rfl⟩
      rw [← hN] at hm1 hs4 bC bP ⊢
      clear hN w1
      refine (wpIn_wide (n := 5)).1 ?_
      refine wpIn_rangeFunc_ownG (w := w4) (w0 := w4) rfl (by omega) (gf := 52) (lb := #[.pointer (some ⟨N + 1 + 1, 0, none⟩)]) rfl trivial (enters_of Tryd.func52 (by kernel_rfl) rfl)
        (pieces_stops s hs w4 (N + 1 + 1) bP 4 (by omega)) KpB.t (fun W l o o' hl ho _ hw => ⟨KeepsWalks.putObj _ ho hw, World.putObj_heap_other (by omega)⟩) (Below.refl _ _) (fun _ => rfl)
        (DirI w (N + 1) (N + 1 + 1)) (fun _ _ _ => False) (dirI_own w _ _ _ (by omega)) (fun _ _ _ _ _ h _ _ => h)
        ⟨bC, bP, hB4⟩ ?act ?assign ?body ?done ?stop
      case assign =>
        intro l x W K hK
        gi_wp2
        exact hK
      case body =>
        rintro l pre x W hI hlen
        have cC := hI.fc.cell
        have fC := hI.fc.frozen
        have H : Hid (DirI w (N + 1) (N + 1 + 1) pre W) := hI
        have hx := x.2
        clear hI bC bP hB4
        gi_wp2
        have hp := H.out.fp.other (B' := N + 1) (by omega) (.int .i64 (x.1.1 : Int))
        refine ⟨(KeepsOthers.setCell _ _ _).from _, ⟨(KeepsOthers.setCell _ _ _).walks, hp.trans H.out.fp.symm⟩, ?_, hp, H.out.fw.setCell (p := ⟨N + 1, 0, none⟩) (by show w.heap.size ≤ N + 1; omega) _⟩
        rw [lastAt_snoc]
        exact H.out.fc.set _
      case done =>
        rintro D xs W hD hS hI hK
        have cC := hI.fc.cell
        have hle := lastAt_le xs
        obtain ⟨t1, t2⟩ := last_split hS HE.out.2
        have H : Hid (Below w.heap.size w W ∧ W.heap[D]? = some (.deferred (some [])) ∧ w4.heap.size ≤ D) := ⟨hI.fw, hK, hD⟩
        obtain ⟨L, hL⟩ : ∃ L, L = lastAt xs := ⟨_, rfl⟩
        rw [← hL] at cC hle t1 t2
        have HT : Hid (trimS (s.extract 0 L) = mk (glue (parts (bs s)).dropLast) ∧ s.extract L s.size = mk ((parts (bs s)).getLastD [])) := ⟨t1, t2⟩
        have i1 : (L : Int) ≤ s.size := by omega
        have hmx : Tryd.prog.follows .mixedOrders = true := by kernel_rfl
        clear hI hS hK hD bC bP hB4 t1 t2 hL
        gi_wp2
        go_wp2_with fail
        go_region_held3 (fun W => W.cell? ⟨N + 1, 0, none⟩ = some (.int .i64 (L : Int)))
          (first
            | (go_split_ands; go_keep)
            | (exact cC))
          ((go_at_call 42; refine (trim_any (s.extract 0 L) _ (by simp; omega)).mono ?_; rintro e w' ⟨rfl, rfl⟩))
        all_goals go_wp2_with fail
        all_goals
          obtain ⟨hb, hK, hD⟩ := H.out
          have hK' : W.drew.heap[D]? = some (.deferred (some [])) := hK
          have hb' : Below w.heap.size w W.drew := hb.trans ⟨rfl, rfl, rfl, Nat.le_refl _, fun _ _ => rfl⟩
          refine ⟨by simp, .inl ⟨_, _, rfl, run_takeDeferred hK', ?_⟩⟩
          refine ⟨.tuple #[.string (trimS (s.extract 0 L)), .string (s.extract L s.size), .int .i64 0], by simp [results, Tryd.results21, go_sem], by rw [HE.out.1, HT.out.1, HT.out.2]; rfl, hb'.trans (belowK_b (w := w) (Nat.le_refl _) _ D _ _ (by omega) hK' rfl rfl)⟩
      case stop =>
        rintro D c pre W hD hS hX hK
        exact hX.elim
  · have j0 : ¬ (e1 : Int) = 0 := by omega
    have HE : Hid (dirP (bs s) = ([], [], e1)) := by
      show _ = _
      unfold dirP
      have : isP (bs s) = false := by unfold isP; rw [← H1.out]; simpa using h0
      rw [this, H1.out]; rfl
    clear H1
    go_wp2_with (go_at_call 12; refine hp.mono ?_; clear hp; rintro e w1 ⟨rfl, hB1⟩; obtain ⟨q0, q1⟩ := box2_at w1 (.int .i64 (e1 : Int)) (.int .i64 (e2 : Int)))
    go_quiet (fail)
    go_wp2_with fail
    refine ret3_m (v := .tuple #[.string ⟨#[]⟩, .string ⟨#[]⟩, .int .i64 (e1 : Int)]) (by simp [results, Tryd.results21, go_sem]) ⟨by rw [HE.out]; rfl, ?_⟩
    exact below_drewN (hB1.alloc hB1.size _) _
end Go.Proofs.YtadmpobnpnbgoaaDoor
