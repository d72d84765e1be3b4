import Derived.Test.YtiaelcckdodfjaaM05
/- The walks of what stands on Path: isPath, count, rest, Rest, In, firstErr, join, Move. -/
namespace Go.Proofs.Ytiaelcckdodfjaa
open Go.RowKit Go.Shelf

attribute [local go_sem] Oper.semAt_some

theorem field0 (a b : Value) (w : World) : (Instr.field 38 (.agg #[a, b]) 0).run Try.prog w = .ok a w := by kernel_rfl
theorem isPath_any (s : ByteArray) (w : World) (hs : s.size ≤ maxLen) :
    Calls Try.prog 58 #[.string s] w fun e w' => e = .returned (.bool (isP (bs s))) ∧ Below w.heap.size w w' := by
  have hp := path_any s w hs
  obtain ⟨e1, h1⟩ : ∃ e1, e1 = (pathSpot (bs s)).1 := ⟨_, rfl⟩
  obtain ⟨e2, h2⟩ : ∃ e2, e2 = (pathSpot (bs s)).2 := ⟨_, rfl⟩
  simp only [spotV] at hp
  rw [← h1, ← h2] at hp
  have H : Hid (((e1 : Int) == 0) = isP (bs s)) := by
    show _ = _
    unfold isP
    rw [← h1, Bool.eq_iff_iff, beq_iff_eq, beq_iff_eq]; omega
  clear h1 h2
  have hfd := fun w => field0 (.int .i64 (e1 : Int)) (.int .i64 (e2 : Int)) w
  go_enter Try.func58, Try.ntmps58
  go_wp2_with (go_at_call 13; refine hp.mono ?_; rintro e w' ⟨rfl, hB⟩)
  go_ret
  exact ⟨by rw [← H.out]; rfl, hB⟩

/-- how many rounds have been -/
structure CountI {s : ByteArray} (w : World) (pre : List (Pc s)) (W : World) : Prop where
  n : Boxed W w.heap.size 3 (.int .i64 (pre.length : Int))
  p : Boxed W (w.heap.size + 1) 9 (.string s)
  b : Below w.heap.size w W
theorem countI_own {s : ByteArray} (w : World) (b0 : Nat) (h0 : w.heap.size ≤ b0) : OwnFrom b0 (CountI (s := s) w) := fun _ _ _ _ hs hg hr =>
  ⟨boxed_keep hs.n hg hr, boxed_keep hs.p hg hr, below_keep hs.b (Nat.le_refl _) h0 hg hr⟩

theorem parts_count (l : List UInt8) : (parts l).length ≤ l.length + 1 := by
  have h : ∀ (l cur : List UInt8), (cutS cur l).length ≤ l.length + 1 := by
    intro l
    induction l with
    | nil => intro cur; simp [cutS]
    | cons c t ih =>
      intro cur
      unfold cutS
      split
      · have := ih []; simp only [List.length_cons]; omega
      · have := ih (cur ++ [c]); simp only [List.length_cons]; omega
  unfold parts
  split
  · simp
  · exact h l []

set_option maxRecDepth 100000 in
set_option maxHeartbeats 4000000 in
theorem count_any (s : ByteArray) (w : World) (hs' : s.size ≤ 1000000) :
    Calls Try.prog 63 #[.string s] w fun e w' => e = .returned (.int .i64 ((parts (bs s)).length : Int)) ∧ Below w.heap.size w w' := by
  have hs : s.size ≤ maxLen := by unfold maxLen; omega
  have hpc := parts_count (bs s)
  rw [bs_len, ← pcs_len] at hpc
  refine (callsIn_wide (n := 5)).1 ?_
  refine callsIn_of_wp_marks Try.func63 rfl trivial ?_ rfl
  simp only [Try.ntmps63, List.size_toArray, List.length_cons, List.length_nil, Nat.reduceAdd, Nat.reduceSub, Array.replicate_succ, Array.replicate_zero, List.push_toArray, List.append_toArray, List.nil_append, List.cons_append]
  refine wpIn_wide.2 ?_
  go_wp2_with fail
  refine (npieces_any s _).mono ?_
  rintro e w' ⟨rfl, rfl⟩
  go_wp2_with fail
  obtain ⟨w4, hw4⟩ : ∃ w4, w4 = (w.alloc (.cells #[.int .i64 0] 3)).alloc (.cells #[.string s] 9) := ⟨_, rfl⟩
  have hs4 : w4.heap.size = w.heap.size + 2 := by rw [hw4]; simp
  have hB4 : Below w.heap.size w w4 := by
    rw [hw4]; exact ((Below.refl _ w).alloc (Nat.le_refl _) _).alloc (by simp) _
  have bN : Boxed w4 w.heap.size 3 (.int .i64 0) := by
    rw [hw4]; exact (Boxed.new w 3 (.int .i64 0)).alloc _
  have bP : Boxed w4 (w.heap.size + 1) 9 (.string s) := by
    have := Boxed.new (w.alloc (.cells #[.int .i64 0] 3)) 9 (.string s)
    rw [World.size_alloc] at this
    rw [hw4]; exact this
  rw [← hw4]
  clear hw4
  refine (wpIn_wide (n := 5)).1 ?_
  refine wpIn_rangeFunc_ownG (w := w4) (w0 := w4) rfl (by omega) (gf := 59) (lb := #[.pointer (some ⟨w.heap.size + 1, 0, none⟩)]) rfl trivial (enters_of Try.func59 (by kernel_rfl) rfl)
    (pieces_stops s hs w4 (w.heap.size + 1) bP 4 (by omega)) KpB.t (fun W l o o' hl ho _ hw => ⟨KeepsWalks.putObj _ ho hw, World.putObj_heap_other (by omega)⟩) (Below.refl _ _) (fun _ => rfl)
    (CountI w) (fun _ _ _ => False) (countI_own w _ (by omega)) (fun _ _ _ _ _ h _ _ => h)
    ⟨bN, bP, hB4⟩ ?act ?assign ?body ?done ?stop
  case assign =>
    intro l x W K hK
    gi_wp2
    exact hK
  case body =>
    rintro l pre x W hI hlen
    have cN := hI.n.cell
    have fN := hI.n.frozen
    have H : Hid (CountI w pre W) := hI
    obtain ⟨L, hL⟩ : ∃ L, L = pre.length := ⟨_, rfl⟩
    have HL : Hid (L = pre.length) := hL
    rw [← hL] at cN hlen
    clear hI hL bN bP hB4
    gi_wp2
    have hp := H.out.p.other (B' := w.heap.size) (by omega) (.int .i64 ((L : Int) + 1))
    refine ⟨(KeepsOthers.setCell _ _ _).from _, ⟨(KeepsOthers.setCell _ _ _).walks, hp.trans H.out.p.symm⟩, ?_, hp, H.out.b.setCell (p := ⟨w.heap.size, 0, none⟩) (Nat.le_refl _) _⟩
    rw [List.length_append, List.length_singleton, ← HL.out]
    exact H.out.n.set _
  case done =>
    rintro D xs W hD hS hI hK
    have cN := hI.n.cell
    have hl : xs.length = (parts (bs s)).length := by rw [← pcs_len, ← hS, List.length_map]
    rw [hl] at cN
    have H : Hid (Below w.heap.size w W ∧ W.heap[D]? = some (.deferred (some [])) ∧ w4.heap.size ≤ D) := ⟨hI.b, hK, hD⟩
    clear hI hS hK hD bN bP hB4 hl
    gi_wp2
    go_wp2_with fail
    obtain ⟨hb, hK, hD⟩ := H.out
    refine ⟨by simp, .inl ⟨_, _, rfl, run_takeDeferred hK, ?_⟩⟩
    refine ⟨.int .i64 ((parts (bs s)).length : Int), ?_, rfl, hb.trans (belowK_b (w := w) (Nat.le_refl _) _ D _ _ (by omega) hK rfl rfl)⟩
    simp [results, Try.results63, go_sem]
  case stop =>
    rintro D c pre W hD hS hX hK
    exact hX.elim

theorem lite_cut (s p : ByteArray) (w : World) (hs : s.size ≤ 1000000) (hp : p.size ≤ 1000000) :
    Calls Try.prog 74 #[.string s, .string p] w fun e w' => e = .returned (.tuple #[.string (if pre (bs p) (bs s) then s.extract p.size s.size else s), .bool (pre (bs p) (bs s))]) ∧ w' = w := by
  have hx := lite_prefix s p w (by unfold maxLen; omega) (by unfold maxLen; omega)
  cases hpr : pre (bs p) (bs s) with
  | false =>
    rw [hpr] at hx
    go_enter Try.func74, Try.ntmps74
    go_wp2_with (go_at_call 83; refine hx.mono ?_; rintro e w' ⟨rfl, rfl⟩)
    go_ret2
    exact ⟨rfl, rfl⟩
  | true =>
    have hle : p.size ≤ s.size := by have := ((pre_iff _ _).1 hpr).length_le; rw [bs_len, bs_len] at this; exact this
    have i1 : (p.size : Int) ≤ s.size := by omega
    rw [hpr] at hx
    go_enter Try.func74, Try.ntmps74
    go_wp2_with (go_at_call 83; refine hx.mono ?_; rintro e w' ⟨rfl, rfl⟩)
    go_ret2
    exact ⟨rfl, rfl⟩
theorem cut_prefix (s p : ByteArray) (w : World) (hs : s.size ≤ 1000000) (hp : p.size ≤ 1000000) :
    Calls Try.prog 62 #[.string s, .string p] w fun e w' => e = .returned (.tuple #[.string (if pre (bs p) (bs s) then s.extract p.size s.size else s), .bool (pre (bs p) (bs s))]) ∧ w' = w := by
  have hx := lite_cut s p w hs hp
  generalize (if pre (bs p) (bs s) then s.extract p.size s.size else s) = S at hx ⊢
  generalize pre (bs p) (bs s) = b at hx ⊢
  go_enter Try.func62, Try.ntmps62
  go_wp2_with (go_at_call 74; refine hx.mono ?_; rintro e w' ⟨rfl, rfl⟩)
  go_ret2
  exact ⟨rfl, rfl⟩

def restS (p q : ByteArray) : ByteArray := mk ((restP (bs p) (bs q)).getD [])
def restB (p q : ByteArray) : Bool := (restP (bs p) (bs q)).isSome
theorem restP_len (p q r : List UInt8) (h : restP p q = some r) : r.length ≤ p.length := by
  unfold restP at h
  split at h
  · cases h; exact Nat.le_refl _
  · split at h
    · cases h; simp
    · split at h
      · cases h; rw [List.length_drop]; omega
      · cases h
theorem restS_size (p q : ByteArray) : (restS p q).size ≤ p.size := by
  unfold restS
  rw [← bs_len, bs_mk, ← bs_len p]
  cases h : restP (bs p) (bs q) with
  | none => simp
  | some r => exact restP_len _ _ _ h

theorem nrest_any (p q : ByteArray) (w : World) (hp : p.size ≤ 500000) (hq : q.size ≤ 500000) :
    Calls Try.prog 33 #[.string p, .string q] w fun e w' => e = .returned (.tuple #[.string (restS p q), .bool (restB p q)]) ∧ w' = w := by
  by_cases h1 : q.toList = []
  · have e1 : restP (bs p) (bs q) = some (bs p) := by unfold restP; rw [if_pos ((toList_bs q).symm.trans h1)]
    have e2 : restS p q = p := by unfold restS; rw [e1]; exact mk_bs p
    have e3 : restB p q = true := by unfold restB; rw [e1]; rfl
    go_enter Try.func33, Try.ntmps33
    go_wp2
    go_ret2
    rw [e2, e3]
    exact ⟨rfl, rfl⟩
  · have b1 : q.toList.isEmpty = false := by simpa using h1
    have n1 : bs q ≠ [] := by rw [← toList_bs]; exact h1
    by_cases h2 : q = p
    · subst h2
      have e1 : restP (bs q) (bs q) = some [] := by unfold restP; rw [if_neg n1, if_pos rfl]
      have e2 : restS q q = ⟨#[]⟩ := by unfold restS; rw [e1]; rfl
      have e3 : restB q q = true := by unfold restB; rw [e1]; rfl
      go_enter Try.func33, Try.ntmps33
      go_wp2
      go_ret2
      rw [e2, e3]
      exact ⟨rfl, rfl⟩
    · have b2 : (q.toList == p.toList) = false := by rw [str_beq]; exact decide_eq_false (fun e => h2 (bs_inj e))
      have b3 : ¬ q.toList = p.toList := by rw [toList_bs, toList_bs]; exact fun e => h2 (bs_inj e)
      have hx := cut_prefix p (q ++ ⟨#[47]⟩) w (by omega) (by have e : (⟨#[47]⟩ : ByteArray).size = 1 := rfl; rw [ByteArray.size_append, e]; omega)
      have hb : bs (q ++ ⟨#[47]⟩) = bs q ++ [47] := by rw [bs_append]; rfl
      have hrp : restP (bs p) (bs q) = if pre (bs q ++ [47]) (bs p) then some ((bs p).drop ((bs q).length + 1)) else none := by
        unfold restP
        rw [if_neg n1, if_neg (fun e => h2 (bs_inj e))]; rfl
      rw [hb] at hx
      cases hpr : pre (bs q ++ [47]) (bs p) with
      | false =>
        rw [hpr] at hx hrp
        have e2 : restS p q = ⟨#[]⟩ := by unfold restS; rw [hrp]; rfl
        have e3 : restB p q = false := by unfold restB; rw [hrp]; rfl
        clear hrp
        go_enter Try.func33, Try.ntmps33
        go_wp2_with (go_at_call 62; refine hx.mono ?_; rintro e w' ⟨rfl, rfl⟩)
        go_ret2
        rw [e2, e3]
        exact ⟨rfl, rfl⟩
      | true =>
        rw [hpr] at hx hrp
        have e2 : restS p q = p.extract (q.size + 1) p.size := by
          unfold restS; rw [hrp]
          apply bs_inj
          rw [bs_mk, bs_extract, ← bs_len p, List.take_length, bs_len]
          simp
        have e3 : restB p q = true := by unfold restB; rw [hrp]; rfl
        clear hrp
        go_enter Try.func33, Try.ntmps33
        go_wp2_with (go_at_call 62; refine hx.mono ?_; rintro e w' ⟨rfl, rfl⟩)
        go_ret2
        rw [e2, e3]
        exact ⟨rfl, rfl⟩

theorem Rest_any (p q : ByteArray) (w : World) (hp : p.size ≤ 500000) (hq : q.size ≤ 500000) :
    Calls Try.prog 27 #[.string p, .string q] w fun e w' => e = .returned (.tuple #[.string (if isP (bs p) && isP (bs q) then restS p q else ⟨#[]⟩), .bool (inP (bs p) (bs q))]) ∧ Below w.heap.size w w' := by
  have hx := isPath_any p w (by unfold maxLen; omega)
  have hr := fun w => nrest_any p q w hp hq
  have hy := fun w => isPath_any q w (by unfold maxLen; omega)
  have hin : inP (bs p) (bs q) = (isP (bs p) && isP (bs q) && restB p q) := rfl
  rw [hin]
  clear hin
  cases h1 : isP (bs p) with
  | false =>
    rw [h1] at hx
    go_enter Try.func27, Try.ntmps27
    go_wp2_with (go_at_call 58; refine hx.mono ?_; rintro e w1 ⟨rfl, hB1⟩)
    go_ret2
    exact ⟨rfl, hB1⟩
  | true =>
    rw [h1] at hx
    cases h2 : isP (bs q) with
    | false =>
      rw [h2] at hy
      go_enter Try.func27, Try.ntmps27
      go_wp2_with first
        | (go_at_call 58; refine hx.mono ?_; clear hx; rintro e w1 ⟨rfl, hB1⟩; replace hy := hy w1)
        | (go_at_call 58; refine hy.mono ?_; clear hy; rintro e w2 ⟨rfl, hB2⟩)
      go_ret2
      exact ⟨rfl, hB1.trans (hB2.mono hB1.size)⟩
    | true =>
      rw [h2] at hy
      generalize restS p q = S at hr ⊢
      generalize restB p q = b at hr ⊢
      go_enter Try.func27, Try.ntmps27
      go_wp2_with first
        | (go_at_call 58; refine hx.mono ?_; clear hx; rintro e w1 ⟨rfl, hB1⟩; replace hy := hy w1)
        | (go_at_call 58; refine hy.mono ?_; clear hy; rintro e w2 ⟨rfl, hB2⟩)
        | (go_at_call 33; refine (hr _).mono ?_; clear hr; rintro e w3 ⟨rfl, rfl⟩)
      go_ret2
      exact ⟨rfl, hB1.trans (hB2.mono hB1.size)⟩

theorem In_any (p q : ByteArray) (w : World) (hp : p.size ≤ 500000) (hq : q.size ≤ 500000) :
    Calls Try.prog 11 #[.string p, .string q] w fun e w' => e = .returned (.bool (inP (bs p) (bs q))) ∧ Below w.heap.size w w' := by
  have hr := Rest_any p q w hp hq
  generalize (if isP (bs p) && isP (bs q) then restS p q else ⟨#[]⟩) = S at hr
  generalize inP (bs p) (bs q) = b at hr ⊢
  go_enter Try.func11, Try.ntmps11
  go_wp2_with (go_at_call 27; refine hr.mono ?_; clear hr; rintro e w3 ⟨rfl, hB⟩)
  go_ret
  exact ⟨rfl, hB⟩
end Go.Proofs.Ytiaelcckdodfjaa
