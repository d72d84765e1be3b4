import Derived.Test.YtiaelcckdodfjaaM06
import Derived.Test.YtiaelcckdodfjaaM45
/- The walks of firstErr, join, Move, Join. -/
namespace Go.Proofs.Ytiaelcckdodfjaa
open Go.RowKit Go.Shelf

attribute [local go_sem] Oper.semAt_some

/-- a slice of texts -/
theorem firstP_drop (l : List ByteArray) (k : Nat) (x : ByteArray) (hx : l[k]? = some x) : firstP ((l.drop k).map bs) = if isP (bs x) then firstP ((l.drop (k + 1)).map bs) else (pathSpot (bs x)).1 := by
  have hk : k < l.length := (List.getElem?_eq_some_iff.1 hx).1
  rw [List.drop_eq_getElem_cons hk, (List.getElem?_eq_some_iff.1 hx).2]
  rfl

set_option maxHeartbeats 2000000 in
theorem firstErr_any (w : World) (a : Option Addr) (n c : Nat) (l : List ByteArray) (h : Strs w a n l) (hl : ∀ x ∈ l, x.size ≤ maxLen) (hn : n ≤ 1000000) :
    Calls Try.prog 32 #[.slice a n c] w fun e w' => e = .returned (.int .i64 (firstP (l.map bs) : Int)) ∧ Below w.heap.size w w' := by
  go_enter Try.func32, Try.ntmps32
  go_wp2
  go_loopw [8] (fun i wr => ∃ k : Nat, k ≤ n ∧ i = .int .i64 k ∧ Hid (Below w.heap.size w wr ∧ firstP (l.map bs) = firstP ((l.drop k).map bs))) (fun i _ => n - (intOf i).toNat)
  case atStart => exact ⟨0, Nat.zero_le _, rfl, Below.refl _ _, rfl⟩
  case round =>
    obtain ⟨k, hk, rfl, H⟩ := hrel
    by_cases hlt : k < n
    · obtain ⟨b, off, rfl, hc⟩ := h.2 (by omega)
      obtain ⟨x, hx⟩ : ∃ x, l[k]? = some x := ⟨_, List.getElem?_eq_getElem (by rw [h.1]; exact hlt)⟩
      have hc0 := hc k x hx
      have hcr : wr.cell? ⟨b, off + k, none⟩ = some (.string x) := (H.out.1.cell (p := ⟨b, off + k, none⟩) (World.block_lt_of_cell? w _ hc0)).trans hc0
      have hp := path_any x wr (hl x (List.mem_of_getElem? hx))
      have HX : Hid (l[k]? = some x) := hx
      obtain ⟨e1, h1⟩ : ∃ e1, e1 = (pathSpot (bs x)).1 := ⟨_, rfl⟩
      obtain ⟨e2, h2⟩ : ∃ e2, e2 = (pathSpot (bs x)).2 := ⟨_, rfl⟩
      simp only [spotV] at hp
      rw [← h1, ← h2] at hp
      have H1 : Hid (e1 = (pathSpot (bs x)).1) := h1
      have i1 : (k : Int) < (n : Int) := by omega
      have i2 : ¬ n ≤ k := by omega
      clear h1 h2 hc hc0 h hx hl
      by_cases h0 : e1 = 0
      · subst h0
        have HI : Hid (isP (bs x) = true) := by show _ = _; unfold isP; rw [← H1.out]; rfl
        have HN : Hid (firstP (l.map bs) = firstP ((l.drop (k + 1)).map bs)) := by
          show _ = _
          rw [H.out.2, firstP_drop l k x HX.out, if_pos HI.out]
        go_wp2_with (go_at_call 13; refine hp.mono ?_; clear hp; rintro e w1 ⟨rfl, hB1⟩; obtain ⟨q0, q1⟩ := box2_at w1 (.int .i64 0) (.int .i64 (e2 : Int)))
        go_roundw
        case rel => exact ⟨k + 1, by omega, by simp, (H.out.1.trans (hB1.mono H.out.1.size)).alloc (by have := H.out.1.size; have := hB1.size; omega) _, HN.out⟩
        case measure => simp [intOf]; omega
      · have j0 : ¬ (e1 : Int) = 0 := by omega
        have HI : Hid (isP (bs x) = false) := by show _ = _; unfold isP; rw [← H1.out]; simpa using h0
        have HN : Hid (firstP (l.map bs) = e1) := by
          show _ = _
          rw [H.out.2, firstP_drop l k x HX.out, HI.out, H1.out]; rfl
        go_wp2_with (go_at_call 13; refine hp.mono ?_; clear hp; rintro e w1 ⟨rfl, hB1⟩; obtain ⟨q0, q1⟩ := box2_at w1 (.int .i64 (e1 : Int)) (.int .i64 (e2 : Int)))
        go_ret
        exact ⟨by rw [HN.out]; rfl, (H.out.1.trans (hB1.mono H.out.1.size)).alloc (by have := H.out.1.size; have := hB1.size; omega) _⟩
    · obtain rfl : k = n := by omega
      have HN : Hid (firstP (l.map bs) = 0) := by
        show _ = _
        rw [H.out.2, List.drop_eq_nil_of_le (by rw [h.1]; exact Nat.le_refl _)]; rfl
      go_wp2
      go_ret
      exact ⟨by rw [HN.out]; rfl, H.out.1⟩

def joinS (p q : ByteArray) : ByteArray := mk ((joinP (bs p) (bs q)).getD [])
def joinE (p q : ByteArray) : Nat := if (joinP (bs p) (bs q)).isSome then 0 else 3

theorem joinP_mid (p q : ByteArray) (h1 : bs p ≠ []) (h2 : bs q ≠ []) : joinP (bs p) (bs q) = if 16 < (parts (bs p)).length + (parts (bs q)).length ∨ 200 < p.size + 1 + q.size then none else some (bs p ++ 47 :: bs q) := by
  unfold joinP
  rw [if_neg h1, if_neg h2, bs_len, bs_len]

set_option maxHeartbeats 2000000 in
theorem join_any (p q : ByteArray) (w : World) (hp : p.size ≤ 500000) (hq : q.size ≤ 500000) :
    Calls Try.prog 34 #[.string p, .string q] w fun e w' => e = .returned (.tuple #[.string (joinS p q), .int .i64 (joinE p q : Int)]) ∧ Below w.heap.size w w' := by
  by_cases h1 : p.toList = []
  · have e1 : joinP (bs p) (bs q) = some (bs q) := by unfold joinP; rw [if_pos ((toList_bs p).symm.trans h1)]
    have e2 : joinS p q = q := by unfold joinS; rw [e1]; exact mk_bs q
    have e3 : joinE p q = 0 := by unfold joinE; rw [e1]; rfl
    go_enter Try.func34, Try.ntmps34
    go_wp2
    go_ret2
    rw [e2, e3]
    exact ⟨rfl, Below.refl _ _⟩
  · have b1 : p.toList.isEmpty = false := by simpa using h1
    have n1 : bs p ≠ [] := by rw [← toList_bs]; exact h1
    by_cases h2 : q.toList = []
    · have e1 : joinP (bs p) (bs q) = some (bs p) := by unfold joinP; rw [if_neg n1, if_pos ((toList_bs q).symm.trans h2)]
      have e2 : joinS p q = p := by unfold joinS; rw [e1]; exact mk_bs p
      have e3 : joinE p q = 0 := by unfold joinE; rw [e1]; rfl
      go_enter Try.func34, Try.ntmps34
      go_wp2
      go_ret2
      rw [e2, e3]
      exact ⟨rfl, Below.refl _ _⟩
    · have b2 : q.toList.isEmpty = false := by simpa using h2
      have n2 : bs q ≠ [] := by rw [← toList_bs]; exact h2
      have hj := joinP_mid p q n1 n2
      have hx := count_any p w (by omega)
      have hy := fun w => count_any q w (by omega)
      have c1 := parts_count (bs p)
      have c2 := parts_count (bs q)
      rw [bs_len] at c1 c2
      generalize (parts (bs p)).length = m1 at hx hj c1
      generalize (parts (bs q)).length = m2 at hy hj c2
      by_cases h3 : 16 < m1 + m2
      · have i3 : (16 : Int) < (m1 : Int) + m2 := by omega
        rw [if_pos (.inl h3)] at hj
        have e2 : joinS p q = ⟨#[]⟩ := by unfold joinS; rw [hj]; rfl
        have e3 : joinE p q = 3 := by unfold joinE; rw [hj]; rfl
        clear hj
        go_enter Try.func34, Try.ntmps34
        go_wp2_with first
          | (go_at_call 63; refine hx.mono ?_; clear hx; rintro e w1 ⟨rfl, hB1⟩; replace hy := hy w1)
          | (go_at_call 63; refine hy.mono ?_; clear hy; rintro e w2 ⟨rfl, hB2⟩)
        go_ret2
        rw [e2, e3]
        exact ⟨rfl, hB1.trans (hB2.mono hB1.size)⟩
      · have i3 : ¬ (16 : Int) < (m1 : Int) + m2 := by omega
        by_cases h4 : 200 < p.size + 1 + q.size
        · have i4 : (200 : Int) < (p.size : Int) + 1 + q.size := by omega
          rw [if_pos (.inr h4)] at hj
          have e2 : joinS p q = ⟨#[]⟩ := by unfold joinS; rw [hj]; rfl
          have e3 : joinE p q = 3 := by unfold joinE; rw [hj]; rfl
          clear hj
          go_enter Try.func34, Try.ntmps34
          go_wp2_with first
            | (go_at_call 63; refine hx.mono ?_; clear hx; rintro e w1 ⟨rfl, hB1⟩; replace hy := hy w1)
            | (go_at_call 63; refine hy.mono ?_; clear hy; rintro e w2 ⟨rfl, hB2⟩)
          go_ret2
          rw [e2, e3]
          exact ⟨rfl, hB1.trans (hB2.mono hB1.size)⟩
        · have i4 : ¬ (200 : Int) < (p.size : Int) + 1 + q.size := by omega
          rw [if_neg (by omega)] at hj
          have e2 : joinS p q = p ++ ⟨#[47]⟩ ++ q := by
            unfold joinS; rw [hj]
            apply bs_inj
            rw [bs_mk, bs_append, bs_append]
            simp [bs]
          have e3 : joinE p q = 0 := by unfold joinE; rw [hj]; rfl
          clear hj
          go_enter Try.func34, Try.ntmps34
          go_wp2_with first
            | (go_at_call 63; refine hx.mono ?_; clear hx; rintro e w1 ⟨rfl, hB1⟩; replace hy := hy w1)
            | (go_at_call 63; refine hy.mono ?_; clear hy; rintro e w2 ⟨rfl, hB2⟩)
          go_ret2
          rw [e2, e3]
          exact ⟨rfl, hB1.trans (hB2.mono hB1.size)⟩

set_option maxHeartbeats 2000000 in
theorem Move_any (p q t : ByteArray) (w : World) (hp : p.size ≤ 200000) (hq : q.size ≤ 200000) (ht : t.size ≤ 200000) :
    Calls Try.prog 14 #[.string p, .string q, .string t] w fun e w' => e = .returned (.tuple #[.string (mk (moveP (bs p) (bs q) (bs t)).1), .int .i64 ((moveP (bs p) (bs q) (bs t)).2 : Int)]) ∧ Below w.heap.size w w' := by
  have hf := firstErr_any (w.alloc (.cells #[.string p, .string q, .string t] 9)) (some ⟨w.heap.size, 0, none⟩) 3 3 [p, q, t] (strs_new w [p, q, t] _ 3 rfl) (by simp; unfold maxLen; omega) (by omega)
  have hB0 : Below w.heap.size w (w.alloc (.cells #[.string p, .string q, .string t] 9)) := (Below.refl _ w).alloc (Nat.le_refl _) _
  have hr := fun w => nrest_any p q w (by omega) (by omega)
  have hmv : moveP (bs p) (bs q) (bs t) = if firstP [bs p, bs q, bs t] ≠ 0 then ([], firstP [bs p, bs q, bs t]) else if restB p q then (bs (joinS t (restS p q)), joinE t (restS p q)) else ([], 141) := by
    unfold moveP restB joinE joinS restS
    split
    · rfl
    · cases h : restP (bs p) (bs q) with
      | none => rfl
      | some r =>
        simp only [Option.isSome_some, if_true, Option.getD_some, bs_mk]
        cases h2 : joinP (bs t) r <;> rfl
  have hrs := restS_size p q
  have hj := fun w => join_any t (restS p q) w (by omega) (by omega)
  rw [hmv]
  clear hmv
  simp only [List.map_cons, List.map_nil] at hf
  generalize firstP [bs p, bs q, bs t] = fe at hf ⊢
  by_cases h0 : fe = 0
  · subst h0
    simp only [ne_eq, not_true_eq_false, if_false]
    cases hb : restB p q with
    | false =>
      rw [hb] at hr
      go_enter Try.func14, Try.ntmps14
      go_wp2_with first
        | (go_at_call 32; refine hf.mono ?_; clear hf; rintro e w1 ⟨rfl, hB1⟩)
        | (go_at_call 33; refine (hr _).mono ?_; clear hr; rintro e w2 ⟨rfl, rfl⟩)
      go_ret2
      exact ⟨rfl, hB0.trans (hB1.mono (by simp))⟩
    | true =>
      rw [hb] at hr
      simp only [if_true]
      rw [mk_bs]
      generalize restS p q = S at hr hj ⊢
      generalize joinS t S = T at hj ⊢
      generalize joinE t S = E at hj ⊢
      go_enter Try.func14, Try.ntmps14
      go_wp2_with first
        | (go_at_call 32; refine hf.mono ?_; clear hf; rintro e w1 ⟨rfl, hB1⟩)
        | (go_at_call 33; refine (hr _).mono ?_; clear hr; rintro e w2 ⟨rfl, rfl⟩)
        | (go_at_call 34; refine (hj _).mono ?_; clear hj; rintro e w3 ⟨rfl, hB3⟩)
      go_ret2
      exact ⟨rfl, (hB0.trans (hB1.mono (by simp))).trans (hB3.mono (by have := hB0.size; have := hB1.size; omega))⟩
  · have j0 : ¬ (fe : Int) = 0 := by omega
    rw [if_pos h0]
    go_enter Try.func14, Try.ntmps14
    go_wp2_with (go_at_call 32; refine hf.mono ?_; clear hf; rintro e w1 ⟨rfl, hB1⟩)
    go_ret2
    exact ⟨rfl, hB0.trans (hB1.mono (by simp))⟩

def ncutT (s : ByteArray) : ByteArray := s.extract 0 (min s.size 4096)
theorem ncutT_size (s : ByteArray) : (ncutT s).size ≤ 4096 := by simp [ncutT]; omega
theorem badAt_ascii (l : List UInt8) (h : ∀ c ∈ l, 32 ≤ c.toNat ∧ c.toNat < 127 ∧ c ≠ 47) : badAt l = none := by
  induction l with
  | nil => exact badAt_nil
  | cons c t ih =>
    obtain ⟨h1, h2, h3⟩ := h c (by simp)
    have hd := dec_ascii c t (by omega)
    have hb : bad (c :: t) = false := by
      have h4 : ¬ c.toNat = 47 := fun e => h3 (UInt8.toNat_inj.1 e)
      simp only [bad, hd]
      simp
      omega
    rw [badAt_go _ (by simp) hb, hd]
    simp only [List.drop_succ_cons, List.drop_zero]
    rw [ih (fun x hx => h x (by simp [hx]))]; rfl
theorem okName_ascii (l : List UInt8) (h0 : ¬ (l = [] ∨ l = [46] ∨ l = [46, 46])) (h1 : l.length ≤ 32) (h : ∀ c ∈ l, 32 ≤ c.toNat ∧ c.toNat < 127 ∧ c ≠ 47) : okName l = true := by
  unfold okName spot
  rw [if_neg h0, if_neg (by omega), badAt_ascii l h]; rfl
theorem isP_of (l : List UInt8) (h1 : l.length ≤ 200) (h2 : (parts l).length ≤ 16) (h3 : ∀ n ∈ parts l, okName n = true) : isP l = true := (isP_iff l).2 ⟨h1, h3, h2⟩
theorem isP_ab : isP [97, 47, 98] = true := isP_of _ (by decide) (by decide) (fun n hn => by
  have e : parts [97, 47, 98] = [[97], [98]] := by decide
  rw [e] at hn
  simp at hn
  rcases hn with rfl | rfl <;> exact okName_ascii _ (by decide) (by decide) (by decide))
theorem isP_abw : isP [97, 98] = true := isP_of _ (by decide) (by decide) (fun n hn => by
  have e : parts [97, 98] = [[97, 98]] := by decide
  rw [e] at hn
  simp at hn
  subst hn; exact okName_ascii _ (by decide) (by decide) (by decide))
theorem isP_a : isP [97] = true := isP_of _ (by decide) (by decide) (fun n hn => by
  have e : parts [97] = [[97]] := by decide
  rw [e] at hn
  simp at hn
  subst hn; exact okName_ascii _ (by decide) (by decide) (by decide))
theorem isP_xy : isP [120, 47, 121] = true := isP_of _ (by decide) (by decide) (fun n hn => by
  have e : parts [120, 47, 121] = [[120], [121]] := by decide
  rw [e] at hn
  simp at hn
  rcases hn with rfl | rfl <;> exact okName_ascii _ (by decide) (by decide) (by decide))
theorem move_wakes : moveP [97, 47, 98] [97] [120, 47, 121] = ([120, 47, 121, 47, 98], 0) := by
  have e0 : firstP [[97, 47, 98], [97], [120, 47, 121]] = 0 := by simp only [firstP, isP_ab, isP_a, isP_xy, if_true]
  have e1 : restP [97, 47, 98] [97] = some [98] := by decide
  have e2 : joinP [120, 47, 121] [98] = some [120, 47, 121, 47, 98] := by decide
  unfold moveP
  rw [e0, e1]
  simp only [ne_eq, not_true_eq_false, if_false, e2]
theorem in_wakes : inP [97, 47, 98] [97] = true := by
  have e1 : restP [97, 47, 98] [97] = some [98] := by decide
  unfold inP; rw [isP_ab, isP_a, e1]; rfl
theorem in_wakes_no : inP [97, 98] [97] = false := by
  have e1 : restP [97, 98] [97] = none := by decide
  unfold inP; rw [isP_abw, isP_a, e1]; rfl
theorem spot_wakes : spot [47] = (140, 0) := by
  have hb : bad [47] = true := by
    unfold bad; rw [dec_ascii 47 [] (by decide)]; decide
  unfold spot
  rw [if_neg (by decide), if_neg (by decide), badAt_bad _ (by decide) hb]

end Go.Proofs.Ytiaelcckdodfjaa
