/- The walks of the document's Common, Order, Compare. -/
import Derived.Test.YtadmpobnpnbgoaaDoorNRefMove
import Derived.Test.YtadmpobnpnbgoaaDoorNStr
import Derived.Test.YtadmpobnpnbgoaaDoorNCommon
import Derived.Deep.RegionHeld3
namespace Go.Proofs.YtadmpobnpnbgoaaDoor
open Go.RowKit Go.Shelf
open Go.Lib (compareBytes)

/-- two rows of names against each other -/
def ordN : List (List UInt8) → List (List UInt8) → Int
  | [], [] => 0
  | [], _ :: _ => -1
  | _ :: _, [] => 1
  | a :: s, b :: t => if compareBytes a b = 0 then ordN s t else compareBytes a b

def ZTail (T : List UInt8) : Prop := T = [] ∨ ∃ t, T = 0 :: t
theorem cmp_sep : ∀ (a b TA TB : List UInt8), (∀ c ∈ a, 32 ≤ c.toNat) → (∀ c ∈ b, 32 ≤ c.toNat) → ZTail TA → ZTail TB → compareBytes (a ++ TA) (b ++ TB) = if compareBytes a b = 0 then compareBytes TA TB else compareBytes a b
  | [], [], TA, TB, _, _, _, _ => by simp [compareBytes]
  | [], y :: b, TA, TB, _, hb, hA, _ => by
    have hy := hb y (by simp)
    have h0 : (0 : UInt8) < y := UInt8.lt_iff_toNat_lt.2 (by show 0 < y.toNat; omega)
    rcases hA with rfl | ⟨t, rfl⟩
    · simp [compareBytes]
    · simp [compareBytes, h0]
  | x :: a, [], TA, TB, ha, _, _, hB => by
    have hx := ha x (by simp)
    have h0 : (0 : UInt8) < x := UInt8.lt_iff_toNat_lt.2 (by show 0 < x.toNat; omega)
    rcases hB with rfl | ⟨t, rfl⟩
    · simp [compareBytes]
    · have h1 : ¬ x < 0 := UInt8.not_lt.2 UInt8.zero_le
      simp [compareBytes, h0, h1]
  | x :: a, y :: b, TA, TB, ha, hb, hA, hB => by
    have ih := cmp_sep a b TA TB (fun c hc => ha c (by simp [hc])) (fun c hc => hb c (by simp [hc])) hA hB
    have e1 : ∀ s t, compareBytes (x :: s) (y :: t) = if x < y then -1 else if y < x then 1 else compareBytes s t := fun _ _ => rfl
    rw [List.cons_append, List.cons_append, e1, e1]
    by_cases h1 : x < y
    · rw [if_pos h1, if_pos h1]; rfl
    · rw [if_neg h1, if_neg h1]
      by_cases h2 : y < x
      · rw [if_pos h2, if_pos h2]; rfl
      · rw [if_neg h2, if_neg h2]; exact ih
def gtail (s : List (List UInt8)) : List UInt8 := if s = [] then [] else 0 :: (glue s).map wt
theorem glue_wt (a : List UInt8) (s : List (List UInt8)) (ha : (47 : UInt8) ∉ a) : (glue (a :: s)).map wt = a ++ gtail s := by
  unfold gtail
  by_cases hs : s = []
  · subst hs; rw [glue_one, if_pos rfl, List.append_nil, map_wt_id a ha]
  · rw [glue_cons _ _ hs, if_neg hs, List.map_append, map_wt_id a ha, List.map_cons]; rfl
theorem gtail_z (s : List (List UInt8)) : ZTail (gtail s) := by
  unfold gtail
  split
  · exact .inl rfl
  · exact .inr ⟨_, rfl⟩
theorem ordN_cmp : ∀ (A B : List (List UInt8)), Good A → Good B → compareBytes ((glue A).map wt) ((glue B).map wt) = ordN A B
  | [], [], _, _ => rfl
  | [], b :: t, _, hB => by
    have := glue_ne (b :: t) (by simp) hB
    cases h : glue (b :: t) with
    | nil => exact absurd h this
    | cons x r => rfl
  | a :: s, [], hA, _ => by
    have := glue_ne (a :: s) (by simp) hA
    cases h : glue (a :: s) with
    | nil => exact absurd h this
    | cons x r => rfl
  | a :: s, b :: t, hA, hB => by
    have ga : Good s := fun n hn => hA n (by simp [hn])
    have gb : Good t := fun n hn => hB n (by simp [hn])
    have ih := ordN_cmp s t ga gb
    rw [glue_wt a s (okName_slash a (hA a (by simp))), glue_wt b t (okName_slash b (hB b (by simp))), cmp_sep a b _ _ (fun c hc => (okName_bytes a (hA a (by simp)) c hc).1) (fun c hc => (okName_bytes b (hB b (by simp)) c hc).1) (gtail_z s) (gtail_z t)]
    unfold ordN
    by_cases h0 : compareBytes a b = 0
    · rw [if_pos h0, if_pos h0]
      unfold gtail
      by_cases hs : s = []
      · by_cases ht : t = []
        · rw [if_pos hs, if_pos ht, hs, ht]; rfl
        · rw [if_pos hs, if_neg ht, hs]
          cases t with
          | nil => exact absurd rfl ht
          | cons y r => rfl
      · by_cases ht : t = []
        · rw [if_neg hs, if_pos ht, ht]
          cases s with
          | nil => exact absurd rfl hs
          | cons y r => rfl
        · rw [if_neg hs, if_neg ht]
          have : compareBytes (0 :: (glue s).map wt) (0 :: (glue t).map wt) = compareBytes ((glue s).map wt) ((glue t).map wt) := cmp_cancel [0] _ _
          rw [this, ih]
    · rw [if_neg h0, if_neg h0]
theorem ordN_path (a b : List UInt8) (ha : isP a = true) (hb : isP b = true) : cmpW a b = ordN (parts a) (parts b) := by
  have := ordN_cmp (parts a) (parts b) (isP_good ha) (isP_good hb)
  rw [glue_parts, glue_parts] at this
  exact this
theorem ordN_drop (A B : List (List UInt8)) : ∀ k, k ≤ A.length → k ≤ B.length → (∀ j, j < k → A[j]? = B[j]?) → ordN A B = ordN (A.drop k) (B.drop k)
  | 0, _, _, _ => rfl
  | k + 1, h1, h2, h => by
    rw [ordN_drop A B k (by omega) (by omega) (fun j hj => h j (by omega)), List.drop_eq_getElem_cons (show k < A.length by omega), List.drop_eq_getElem_cons (show k < B.length by omega)]
    have := h k (by omega)
    rw [List.getElem?_eq_getElem (show k < A.length by omega), List.getElem?_eq_getElem (show k < B.length by omega)] at this
    have e := Option.some.inj this
    rw [ordN, e, cmp_self, if_pos rfl]

set_option maxHeartbeats 4000000 in
theorem refOrder_any (w : World) (a b : Option Addr) (n m c d : Nat) (A B : List (List UInt8)) (h1 : Strs w a n (A.map mk)) (h2 : Strs w b m (B.map mk)) (hn : n ≤ 1000000) (hm : m ≤ 1000000) :
    Calls Tryd.prog 49 #[.slice a n c, .slice b m d] w fun e w' => e = .returned (.int .i64 (ordN A B)) ∧ Below w.heap.size w w' := by
  have lA : A.length = n := by have := h1.1; simpa using this
  have lB : B.length = m := by have := h2.1; simpa using this
  have HL : Hid (A.length = n ∧ B.length = m) := ⟨lA, lB⟩
  clear lA lB
  go_enter Tryd.func49, Tryd.ntmps49
  go_wp2
  go_loopw [5] (fun i wr => ∃ k : Nat, k ≤ n ∧ k ≤ m ∧ i = .int .i64 k ∧ Hid (Below w.heap.size w wr ∧ ∀ j, j < k → A[j]? = B[j]?)) (fun i _ => n - (intOf i).toNat)
  case atStart => exact ⟨0, Nat.zero_le _, Nat.zero_le _, rfl, Below.refl _ _, fun j hj => by omega⟩
  case round =>
    obtain ⟨k, hk, hkm, rfl, H⟩ := hrel
    have HD : Hid (ordN A B = ordN (A.drop k) (B.drop k)) := ordN_drop A B k (by rw [HL.out.1]; exact hk) (by rw [HL.out.2]; exact hkm) H.out.2
    by_cases hlt : k < n
    · have i1 : (k : Int) < n := by omega
      by_cases hlm : k < m
      · have i2 : (k : Int) < m := by omega
        have i3 : ¬ n ≤ k := by omega
        have i4 : ¬ m ≤ k := by omega
        have kA : k < A.length := by rw [HL.out.1]; exact hlt
        have kB : k < B.length := by rw [HL.out.2]; exact hlm
        obtain ⟨x, hx⟩ : ∃ x, x = mk A[k] := ⟨_, rfl⟩
        obtain ⟨y, hy⟩ : ∃ y, y = mk B[k] := ⟨_, rfl⟩
        obtain ⟨b1, o1, rfl, hc1⟩ := h1.2 (by omega)
        obtain ⟨b2, o2, rfl, hc2⟩ := h2.2 (by omega)
        have hx1 : (A.map mk)[k]? = some x := by rw [List.getElem?_map, List.getElem?_eq_getElem kA, hx]; rfl
        have hy1 : (B.map mk)[k]? = some y := by rw [List.getElem?_map, List.getElem?_eq_getElem kB, hy]; rfl
        have q1 : wr.cell? ⟨b1, o1 + k, none⟩ = some (.string x) := (H.out.1.cell (p := ⟨b1, o1 + k, none⟩) (World.block_lt_of_cell? w _ (hc1 k x hx1))).trans (hc1 k x hx1)
        have q2 : wr.cell? ⟨b2, o2 + k, none⟩ = some (.string y) := (H.out.1.cell (p := ⟨b2, o2 + k, none⟩) (World.block_lt_of_cell? w _ (hc2 k y hy1))).trans (hc2 k y hy1)
        have HXY : Hid (A[k]? = some (bs x) ∧ B[k]? = some (bs y) ∧ A.drop k = bs x :: A.drop (k + 1) ∧ B.drop k = bs y :: B.drop (k + 1)) := ⟨by rw [hx, bs_mk]; exact List.getElem?_eq_getElem kA, by rw [hy, bs_mk]; exact List.getElem?_eq_getElem kB, by rw [hx, bs_mk]; exact List.drop_eq_getElem_cons kA, by rw [hy, bs_mk]; exact List.drop_eq_getElem_cons kB⟩
        have hcs := fun w => str_cmp x y w
        obtain ⟨r, hr⟩ : ∃ r, r = compareBytes (bs x) (bs y) := ⟨_, rfl⟩
        have HR : Hid (r = compareBytes (bs x) (bs y)) := hr
        rw [← hr] at hcs
        clear hc1 hc2 h1 h2 hx1 hy1 hx hy kA kB hr
        by_cases h0 : r = 0
        · subst h0
          have HN : Hid (∀ j, j < k + 1 → A[j]? = B[j]?) := fun j hj => by
            by_cases e : j = k
            · rw [e, HXY.out.1, HXY.out.2.1, cmp_zero _ _ HR.out.symm]
            · exact H.out.2 j (by omega)
          go_wp2_with fail
          go_region_held3 (fun W => W.cell? ⟨b1, o1 + k, none⟩ = some (.string x) ∧ W.cell? ⟨b2, o2 + k, none⟩ = some (.string y))
            (first
              | (go_split_ands; go_keep)
              | (exact ⟨q1, q2⟩))
            ((go_at_call 50; refine (hcs _).mono ?_; rintro e w' ⟨rfl, rfl⟩))
          all_goals go_wp2_with fail
          all_goals exact ⟨⟨k + 1, by omega, by omega, by simp, H.out.1.trans ⟨rfl, rfl, rfl, Nat.le_refl _, fun _ _ => rfl⟩, HN.out⟩, by simp [intOf]; omega⟩
        · have HO : Hid (ordN A B = r) := by
            show _ = _
            rw [HD.out, HXY.out.2.2.1, HXY.out.2.2.2, ordN, if_neg (by rw [← HR.out]; exact h0), HR.out]
          go_wp2_with fail
          go_region_held3 (fun W => W.cell? ⟨b1, o1 + k, none⟩ = some (.string x) ∧ W.cell? ⟨b2, o2 + k, none⟩ = some (.string y))
            (first
              | (go_split_ands; go_keep)
              | (exact ⟨q1, q2⟩))
            ((go_at_call 50; refine (hcs _).mono ?_; rintro e w' ⟨rfl, rfl⟩))
          all_goals go_wp2_with fail
          all_goals go_ret
          all_goals exact ⟨by rw [HO.out]; rfl, H.out.1.trans ⟨rfl, rfl, rfl, Nat.le_refl _, fun _ _ => rfl⟩⟩
      · obtain rfl : k = m := by omega
        have i2 : ¬ (n : Int) < k := by omega
        have HO : Hid (ordN A B = 1) := by
          show _ = _
          rw [HD.out, List.drop_eq_nil_of_le (show B.length ≤ k by rw [HL.out.2]; exact Nat.le_refl _), List.drop_eq_getElem_cons (show k < A.length by rw [HL.out.1]; exact hlt)]
          rfl
        go_wp2
        go_ret
        exact ⟨by rw [HO.out]; rfl, H.out.1⟩
    · obtain rfl : k = n := by omega
      by_cases hlm : k < m
      · have i2 : (k : Int) < m := by omega
        have HO : Hid (ordN A B = -1) := by
          show _ = _
          rw [HD.out, List.drop_eq_nil_of_le (show A.length ≤ k by rw [HL.out.1]; exact Nat.le_refl _), List.drop_eq_getElem_cons (show k < B.length by rw [HL.out.2]; exact hlm)]
          rfl
        go_wp2
        go_ret
        exact ⟨by rw [HO.out]; rfl, H.out.1⟩
      · obtain rfl : k = m := by omega
        have HO : Hid (ordN A B = 0) := by
          show _ = _
          rw [HD.out, List.drop_eq_nil_of_le (show B.length ≤ k by rw [HL.out.2]; exact Nat.le_refl _), List.drop_eq_nil_of_le (show A.length ≤ k by rw [HL.out.1]; exact Nat.le_refl _)]
          rfl
        go_wp2
        go_ret
        exact ⟨by rw [HO.out]; rfl, H.out.1⟩

theorem refCompare_any (a b : ByteArray) (w : World) (hsa : a.size ≤ 500000) (hsb : b.size ≤ 500000) :
    Calls Tryd.prog 31 #[.string a, .string b] w fun e w' => e = .returned (.int .i64 (ordP (bs a) (bs b))) ∧ Below w.heap.size w w' := by
  have hx := refIs_any a w (by omega)
  have hy := fun w => refIs_any b w (by omega)
  have hcs := fun w => str_cmp a b w
  have hu := fun w => parts_any a w (by omega)
  have hv := fun w => parts_any b w (by omega)
  unfold ordP
  cases h1 : isP (bs a) with
  | false =>
    rw [h1] at hx
    cases h2 : isP (bs b) with
    | false =>
      rw [h2] at hy
      generalize compareBytes (bs a) (bs b) = r at hcs ⊢
      go_enter Tryd.func31, Tryd.ntmps31
      go_wp2_with first
        | (go_at_call 45; refine hx.mono ?_; clear hx; rintro e w1 ⟨rfl, hB1⟩; replace hy := hy w1)
        | (go_at_call 45; refine hy.mono ?_; clear hy; rintro e w2 ⟨rfl, hB2⟩)
        | (go_at_call 50; refine (hcs _).mono ?_; rintro e w3 ⟨rfl, rfl⟩)
      go_ret
      exact ⟨rfl, hB1.trans (hB2.mono hB1.size)⟩
    | true =>
      rw [h2] at hy
      go_enter Tryd.func31, Tryd.ntmps31
      go_wp2_with first
        | (go_at_call 45; refine hx.mono ?_; clear hx; rintro e w1 ⟨rfl, hB1⟩; replace hy := hy w1)
        | (go_at_call 45; refine hy.mono ?_; clear hy; rintro e w2 ⟨rfl, hB2⟩)
      go_ret
      exact ⟨rfl, hB1.trans (hB2.mono hB1.size)⟩
  | true =>
    rw [h1] at hx
    cases h2 : isP (bs b) with
    | false =>
      rw [h2] at hy
      go_enter Tryd.func31, Tryd.ntmps31
      go_wp2_with first
        | (go_at_call 45; refine hx.mono ?_; clear hx; rintro e w1 ⟨rfl, hB1⟩; replace hy := hy w1)
        | (go_at_call 45; refine hy.mono ?_; clear hy; rintro e w2 ⟨rfl, hB2⟩)
      go_ret
      exact ⟨rfl, hB1.trans (hB2.mono hB1.size)⟩
    | true =>
      rw [h2] at hy
      have hon := ordN_path _ _ h1 h2
      have lA := ((isP_iff _).1 h1).2.2
      have lB := ((isP_iff _).1 h2).2.2
      simp only [if_true]
      rw [hon]
      have HO : Hid (∀ w (a1 b1 : Option Addr), Strs w a1 (parts (bs a)).length ((parts (bs a)).map mk) → Strs w b1 (parts (bs b)).length ((parts (bs b)).map mk) → Calls Tryd.prog 49 #[.slice a1 (parts (bs a)).length (parts (bs a)).length, .slice b1 (parts (bs b)).length (parts (bs b)).length] w fun e w' => e = .returned (.int .i64 (ordN (parts (bs a)) (parts (bs b)))) ∧ Below w.heap.size w w') := fun w a1 b1 s1 s2 => refOrder_any w a1 b1 _ _ _ _ _ _ s1 s2 (by omega) (by omega)
      generalize ordN (parts (bs a)) (parts (bs b)) = r at HO ⊢
      generalize (parts (bs a)).map mk = AM at HO hu
      generalize (parts (bs b)).map mk = BM at HO hv
      generalize (parts (bs a)).length = n at *
      generalize (parts (bs b)).length = m at *
      clear hon
      go_enter Tryd.func31, Tryd.ntmps31
      go_wp2_with first
        | (go_at_call 45; refine hx.mono ?_; clear hx; rintro e w1 ⟨rfl, hB1⟩; replace hy := hy w1)
        | (go_at_call 45; refine hy.mono ?_; clear hy; rintro e w2 ⟨rfl, hB2⟩; replace hu := hu w2)
        | (go_at_call 14; refine hu.mono ?_; clear hu; rintro e w3 ⟨⟨a3, rfl, s3, n3⟩, hB3⟩; replace hv := hv w3)
        | (go_at_call 14; refine hv.mono ?_; clear hv; rintro e w4 ⟨⟨a4, rfl, s4, n4⟩, hB4⟩; have hw5 := HO.out w4 a3 a4 (s3.kept hB4) s4)
        | (go_at_call 49; refine hw5.mono ?_; clear hw5; rintro e w5 ⟨rfl, hB5⟩)
      go_ret
      have t2 := hB1.trans (hB2.mono hB1.size)
      have t3 := t2.trans (hB3.mono t2.size)
      have t4 := t3.trans (hB4.mono t3.size)
      exact ⟨rfl, t4.trans (hB5.mono t4.size)⟩

theorem lcp_at (A B : List (List UInt8)) : ∀ k, k ≤ A.length → k ≤ B.length → (∀ j, j < k → A[j]? = B[j]?) → (k = A.length ∨ k = B.length ∨ A[k]? ≠ B[k]?) → lcp A B = A.take k
  | 0, _, _, _, h => by
    cases A with
    | nil => simp [lcp]
    | cons a s =>
      cases B with
      | nil => simp [lcp]
      | cons b t =>
        have hab : a ≠ b := by
          rcases h with h | h | h
          · simp at h
          · simp at h
          · simpa using h
        unfold lcp; rw [if_neg hab]; rfl
  | k + 1, h1, h2, h, he => by
    cases A with
    | nil => simp at h1
    | cons a s =>
      cases B with
      | nil => simp at h2
      | cons b t =>
        have hab : a = b := by have := h 0 (by omega); simpa using this
        unfold lcp
        rw [if_pos hab, List.take_succ_cons]
        congr 1
        refine lcp_at s t k (by simpa using h1) (by simpa using h2) (fun j hj => by have := h (j + 1) (by omega); simpa using this) ?_
        rcases he with he | he | he
        · exact .inl (by simpa using he)
        · exact .inr (.inl (by simpa using he))
        · exact .inr (.inr (by simpa using he))

theorem below_chain {a b c d : World} (h1 : Below a.heap.size a b) (h2 : Below b.heap.size b c) (h3 : Below c.heap.size c d) : Below a.heap.size a d :=
  have t := h1.trans (h2.mono h1.size)
  t.trans (h3.mono t.size)

set_option maxHeartbeats 8000000 in
set_option maxRecDepth 20000 in
theorem refCommon_any (p q : ByteArray) (w : World) (hp : p.size ≤ 500000) (hq : q.size ≤ 500000) :
    Calls Tryd.prog 29 #[.string p, .string q] w fun e w' => e = .returned (.string (mk (comP (bs p) (bs q)))) ∧ Below w.heap.size w w' := by
  have hx := refIs_any p w (by omega)
  have hy := fun w => refIs_any q w (by omega)
  cases h1 : isP (bs p) with
  | false =>
    have hc : mk (comP (bs p) (bs q)) = ⟨#[]⟩ := by unfold comP; rw [h1]; rfl
    rw [h1] at hx
    rw [hc]
    go_enter Tryd.func29, Tryd.ntmps29
    go_wp2_with (go_at_call 45; refine hx.mono ?_; rintro e w1 ⟨rfl, hB1⟩)
    go_ret
    exact ⟨rfl, hB1⟩
  | true =>
    rw [h1] at hx
    cases h2 : isP (bs q) with
    | false =>
      have hc : mk (comP (bs p) (bs q)) = ⟨#[]⟩ := by unfold comP; rw [h1, h2]; rfl
      rw [h2] at hy
      rw [hc]
      go_enter Tryd.func29, Tryd.ntmps29
      go_wp2_with first
        | (go_at_call 45; refine hx.mono ?_; clear hx; rintro e w1 ⟨rfl, hB1⟩; replace hy := hy w1)
        | (go_at_call 45; refine hy.mono ?_; clear hy; rintro e w2 ⟨rfl, hB2⟩)
      go_ret
      exact ⟨rfl, hB1.trans (hB2.mono hB1.size)⟩
    | true =>
      rw [h2] at hy
      have hu := fun w => parts_any p w (by omega)
      have hv := fun w => parts_any q w (by omega)
      obtain ⟨A, hA⟩ : ∃ A, A = parts (bs p) := ⟨_, rfl⟩
      obtain ⟨B, hB⟩ : ∃ B, B = parts (bs q) := ⟨_, rfl⟩
      have hc : comP (bs p) (bs q) = glue (lcp A B) := by unfold comP; rw [h1, h2, hA, hB]; rfl
      have hip := (isP_iff _).1 h1
      have hiq := (isP_iff _).1 h2
      rw [← hA] at hu hip
      rw [← hB] at hv hiq
      obtain ⟨n, hn⟩ : ∃ n, n = A.length := ⟨_, rfl⟩
      obtain ⟨m, hm⟩ : ∃ m, m = B.length := ⟨_, rfl⟩
      rw [← hn] at hu
      rw [← hm] at hv
      have hn16 : n ≤ 16 := by rw [hn]; exact hip.2.2
      have hm16 : m ≤ 16 := by rw [hm]; exact hiq.2.2
      have HL : Hid (n = A.length ∧ m = B.length ∧ Good A) := ⟨hn, hm, hip.2.1⟩
      rw [hc]
      clear hA hB hc hip hiq hn hm h1 h2
      go_enter Tryd.func29, Tryd.ntmps29
      go_wp2_with first
        | (go_at_call 45; refine hx.mono ?_; clear hx; rintro e w1 ⟨rfl, hB1⟩; replace hy := hy w1)
        | (go_at_call 45; refine hy.mono ?_; clear hy; rintro e w2 ⟨rfl, hB2⟩; replace hu := hu w2)
        | (go_at_call 14; refine hu.mono ?_; clear hu; rintro e w3 ⟨⟨a3, rfl, s3, n3⟩, hB3⟩; replace hv := hv w3)
        | (go_at_call 14; refine hv.mono ?_; clear hv; rintro e w4 ⟨⟨a4, rfl, s4, n4⟩, hB4⟩)
      have t2 := hB1.trans (hB2.mono hB1.size)
      have t3 := t2.trans (hB3.mono t2.size)
      have HW : Hid (Below w.heap.size w w4 ∧ Strs w4 a3 n (A.map mk) ∧ Strs w4 a4 m (B.map mk)) := ⟨t3.trans (hB4.mono t3.size), s3.kept hB4, s4⟩
      have HN3 : Hid (a3 = none → n = 0) := n3
      clear t2 t3 hB1 hB2 hB3 hB4 s3 s4 n3 n4
      go_loopw [7] (fun i wr => ∃ k : Nat, k ≤ n ∧ k ≤ m ∧ i = .int .i64 k ∧ Hid (Below w4.heap.size w4 wr ∧ ∀ j, j < k → A[j]? = B[j]?)) (fun i _ => n - (intOf i).toNat)
      case atStart => exact ⟨0, Nat.zero_le _, Nat.zero_le _, rfl, Below.refl _ _, fun j hj => by omega⟩
      case round =>
        obtain ⟨k, hk, hkm, rfl, H⟩ := hrel
        have HF : Hid ((k = n ∨ k = m ∨ A[k]? ≠ B[k]?) → ∀ wq, Below w4.heap.size w4 wq → Calls Tryd.prog 43 #[.slice a3 k n, .string ⟨#[47]⟩] wq fun e w' => e = .returned (.string (mk (glue (lcp A B)))) ∧ Below wq.heap.size wq w') := fun hst wq hBq => by
          have hl := lcp_at A B k (by rw [← HL.out.1]; exact hk) (by rw [← HL.out.2.1]; exact hkm) H.out.2 (by rw [← HL.out.1, ← HL.out.2.1]; exact hst)
          have hs1 : Strs wq a3 k ((A.take k).map mk) := by
            have hs := HW.out.2.1.kept hBq
            refine ⟨by rw [List.length_map, List.length_take]; have := HL.out.1; omega, fun h0 => ?_⟩
            obtain ⟨b0, off, e, hc⟩ := hs.2 (by omega)
            exact ⟨b0, off, e, fun j x hx => hc j x (by
              rw [List.getElem?_map] at hx ⊢
              have hj : j < k := by
                cases hq : (A.take k)[j]? with
                | none => rw [hq] at hx; cases hx
                | some y => have := (List.getElem?_eq_some_iff.1 hq).1; rw [List.length_take] at this; omega
              rw [List.getElem?_take_of_lt hj] at hx; exact hx)⟩
          have hmm : ((A.take k).map mk).map bs = A.take k := by
            rw [List.map_map]
            have : ∀ x ∈ A.take k, (bs ∘ mk) x = x := fun x _ => bs_mk x
            rw [List.map_congr_left this, List.map_id']
          have hgs := glue_small (A.take k) (HL.out.2.2.sub (fun n hn => List.mem_of_mem_take hn))
          rw [List.length_take] at hgs
          have := join_any' wq a3 k n _ hs1 hk (by omega) (by rw [hmm]; omega)
          rw [hmm, ← hl] at this
          exact this
        by_cases hlt : k < n
        · have i1 : (k : Int) < n := by omega
          have i1' : (k : Int) ≤ n := by omega
          have i3 : ¬ n ≤ k := by omega
          by_cases hlm : k < m
          · have i2 : (k : Int) < m := by omega
            have i4 : ¬ m ≤ k := by omega
            have kA : k < A.length := by rw [← HL.out.1]; exact hlt
            have kB : k < B.length := by rw [← HL.out.2.1]; exact hlm
            obtain ⟨x, hx⟩ : ∃ x, x = mk A[k] := ⟨_, rfl⟩
            obtain ⟨y, hy⟩ : ∃ y, y = mk B[k] := ⟨_, rfl⟩
            obtain ⟨b1, o1, rfl, hc1⟩ := HW.out.2.1.2 (by omega)
            obtain ⟨b2, o2, rfl, hc2⟩ := HW.out.2.2.2 (by omega)
            have hx1 : (A.map mk)[k]? = some x := by rw [List.getElem?_map, List.getElem?_eq_getElem kA, hx]; rfl
            have hy1 : (B.map mk)[k]? = some y := by rw [List.getElem?_map, List.getElem?_eq_getElem kB, hy]; rfl
            have q1 : wr.cell? ⟨b1, o1 + k, none⟩ = some (.string x) := (H.out.1.cell (p := ⟨b1, o1 + k, none⟩) (World.block_lt_of_cell? w4 _ (hc1 k x hx1))).trans (hc1 k x hx1)
            have q2 : wr.cell? ⟨b2, o2 + k, none⟩ = some (.string y) := (H.out.1.cell (p := ⟨b2, o2 + k, none⟩) (World.block_lt_of_cell? w4 _ (hc2 k y hy1))).trans (hc2 k y hy1)
            have HXY : Hid (A[k]? = some (bs x) ∧ B[k]? = some (bs y)) := ⟨by rw [hx, bs_mk]; exact List.getElem?_eq_getElem kA, by rw [hy, bs_mk]; exact List.getElem?_eq_getElem kB⟩
            clear hc1 hc2 hx1 hy1 hx hy kA kB HN3
            by_cases he : x = y
            · subst he
              have HN : Hid (∀ j, j < k + 1 → A[j]? = B[j]?) := fun j hj => by
                by_cases e : j = k
                · rw [e, HXY.out.1, HXY.out.2]
                · exact H.out.2 j (by omega)
              clear HF
              go_wp2_with fail
              go_quiet (fail)
              go_wp2_with fail
              exact ⟨⟨k + 1, by omega, by omega, by simp, below_drewN H.out.1 _, HN.out⟩, by simp [intOf]; omega⟩
            · have hqe : (x.toList == y.toList) = false := by rw [str_beq]; exact decide_eq_false (fun e => he (bs_inj e))
              have HJ : Hid (∀ wq, Below w4.heap.size w4 wq → Calls Tryd.prog 43 #[.slice (some ⟨b1, o1, none⟩) k n, .string ⟨#[47]⟩] wq fun e w' => e = .returned (.string (mk (glue (lcp A B)))) ∧ Below wq.heap.size wq w') := HF.out (.inr (.inr (by rw [HXY.out.1, HXY.out.2]; exact fun e => he (bs_inj (Option.some.inj e)))))
              clear HF
              go_wp2_with fail
              go_quiet (fail)
              go_wp2_with (go_at_call 43; refine (HJ.out _ (below_drewN H.out.1 _)).mono ?_; rintro e w5 ⟨rfl, hB5⟩)
              go_ret
              exact ⟨rfl, below_chain HW.out.1 (below_drewN H.out.1 _) hB5⟩
          · obtain rfl : k = m := by omega
            have HJ := Hid.mkO (HF.out (.inr (.inl rfl)))
            obtain ⟨b1, o1, rfl, hc1⟩ := HW.out.2.1.2 (by omega)
            clear HF hc1 HN3
            go_wp2_with fail
            go_quiet (fail)
            go_wp2_with (go_at_call 43; refine (HJ.out _ (below_drewN H.out.1 _)).mono ?_; rintro e w5 ⟨rfl, hB5⟩)
            go_ret
            exact ⟨rfl, below_chain HW.out.1 (below_drewN H.out.1 _) hB5⟩
        · obtain rfl : k = n := by omega
          have HJ := Hid.mkO (HF.out (.inl rfl))
          clear HF
          cases a3 with
          | none =>
            have hk0 := HN3.out rfl
            subst hk0
            go_wp2_with fail
            go_quiet (fail)
            go_wp2_with (go_at_call 43; refine (HJ.out _ (below_drewN H.out.1 _)).mono ?_; rintro e w5 ⟨rfl, hB5⟩)
            go_ret
            exact ⟨rfl, below_chain HW.out.1 (below_drewN H.out.1 _) hB5⟩
          | some ad =>
            go_wp2_with fail
            go_quiet (fail)
            go_wp2_with (go_at_call 43; refine (HJ.out _ (below_drewN H.out.1 _)).mono ?_; rintro e w5 ⟨rfl, hB5⟩)
            go_ret
            exact ⟨rfl, below_chain HW.out.1 (below_drewN H.out.1 _) hB5⟩
where
  Hid.mkO {p : Prop} (h : p) : Hid p := h
end Go.Proofs.YtadmpobnpnbgoaaDoor
