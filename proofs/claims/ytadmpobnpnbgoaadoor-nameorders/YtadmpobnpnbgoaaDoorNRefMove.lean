/- The walks of the document's Is, Within, Rest, Join, Move. -/
import Derived.Test.YtadmpobnpnbgoaaDoorNRefPath
import Derived.Test.YtadmpobnpnbgoaaDoorNRefMake
import Derived.Test.YtadmpobnpnbgoaaDoorNApp
import Derived.Test.YtadmpobnpnbgoaaDoorNLiesPlain
namespace Go.Proofs.YtadmpobnpnbgoaaDoor
open Go.RowKit Go.Shelf

theorem refIs_any (s : ByteArray) (w : World) (hs : s.size ≤ 1000000) :
    Calls Tryd.prog 45 #[.string s] w fun e w' => e = .returned (.bool (isP (bs s))) ∧ Below w.heap.size w w' := by
  have hp := refPath_any s w hs
  obtain ⟨e1, h1⟩ : ∃ e1, e1 = (pathSpot (bs s)).1 := ⟨_, rfl⟩
  obtain ⟨e2, h2⟩ : ∃ e2, e2 = (pathSpot (bs s)).2 := ⟨_, rfl⟩
  simp only [spotV] at hp
  rw [← h1, ← h2] at hp
  have H : Hid (((e1 : Int) == 0) = isP (bs s)) := by
    show _ = _
    unfold isP
    rw [← h1, Bool.eq_iff_iff, beq_iff_eq, beq_iff_eq]; omega
  clear h1 h2
  have hfd := fun w => field0 (.int .i64 (e1 : Int)) (.int .i64 (e2 : Int)) w
  go_enter Tryd.func45, Tryd.ntmps45
  go_wp2_with (go_at_call 13; refine hp.mono ?_; rintro e w' ⟨rfl, hB⟩)
  go_ret
  exact ⟨by rw [← H.out]; rfl, hB⟩

theorem strs_tail {w : World} {b off n m : Nat} {l : List ByteArray} (h : Strs w (some ⟨b, off, none⟩) n l) (hm : m ≤ n) : Strs w (some ⟨b, off + m, none⟩) (n - m) (l.drop m) := by
  refine ⟨by rw [List.length_drop, h.1], fun h0 => ⟨b, off + m, rfl, fun j x hx => ?_⟩⟩
  obtain ⟨b', off', e, hc⟩ := h.2 (by omega)
  cases e
  rw [List.getElem?_drop] at hx
  have := hc (m + j) x hx
  rw [Nat.add_assoc]; exact this

set_option maxHeartbeats 2000000 in
theorem within_yes (w : World) (a b : Option Addr) (n m c d : Nat) (l : List ByteArray) (h1 : Strs w a n l) (h2 : Strs w b m (l.take m)) (hmn : m ≤ n) (hnc : n = c) (hn : n ≤ 1000000) (hnil : a = none → n = 0) :
    Calls Tryd.prog 46 #[.slice a n c, .slice b m d] w fun e w' => (∃ a' c', e = .returned (.tuple #[.slice a' (n - m) c', .bool true]) ∧ n - m ≤ c' ∧ Strs w a' (n - m) (l.drop m)) ∧ Below w.heap.size w w' := by
  subst hnc
  have i0 : ¬ (n : Int) < m := by omega
  have i9 : (m : Int) ≤ n := by omega
  go_enter Tryd.func46, Tryd.ntmps46
  go_wp2
  go_loopw [14] (fun i wr => ∃ k : Nat, k ≤ m ∧ i = .int .i64 k ∧ Hid (Below w.heap.size w wr)) (fun i _ => m - (intOf i).toNat)
  case atStart => exact ⟨0, Nat.zero_le _, rfl, Below.refl _ _⟩
  case round =>
    obtain ⟨k, hk, rfl, H⟩ := hrel
    by_cases hlt : k < m
    · obtain ⟨x, hx⟩ : ∃ x, l[k]? = some x := ⟨_, List.getElem?_eq_getElem (by rw [h1.1]; omega)⟩
      obtain ⟨b1, o1, rfl, hc1⟩ := h1.2 (by omega)
      obtain ⟨b2, o2, rfl, hc2⟩ := h2.2 (by omega)
      have q1 : wr.cell? ⟨b1, o1 + k, none⟩ = some (.string x) := (H.out.cell (p := ⟨b1, o1 + k, none⟩) (World.block_lt_of_cell? w _ (hc1 k x hx))).trans (hc1 k x hx)
      have hx2 : (l.take m)[k]? = some x := by rw [List.getElem?_take_of_lt hlt]; exact hx
      have q2 : wr.cell? ⟨b2, o2 + k, none⟩ = some (.string x) := (H.out.cell (p := ⟨b2, o2 + k, none⟩) (World.block_lt_of_cell? w _ (hc2 k x hx2))).trans (hc2 k x hx2)
      have i1 : (k : Int) < (m : Int) := by omega
      have i2 : (k : Int) < (n : Int) := by omega
      have i3 : ¬ n ≤ k := by omega
      have i4 : ¬ m ≤ k := by omega
      clear hc1 hc2 h1 h2 hx hx2 hnil
      go_wp2_with fail
      go_quiet (fail)
      go_wp2_with fail
      go_roundw
      case rel => exact ⟨k + 1, by omega, by simp, below_drewN H.out _⟩
      case measure => simp [intOf]; omega
    · obtain rfl : k = m := by omega
      cases a with
      | none =>
        have hn0 := hnil rfl
        subst hn0
        obtain rfl : k = 0 := by omega
        have hl0 : l = [] := List.length_eq_zero_iff.1 h1.1
        subst hl0
        clear hnil
        go_wp2
        go_ret2
        exact ⟨⟨none, 0, rfl, Nat.le_refl _, rfl, fun h => absurd h (Nat.lt_irrefl _)⟩, H.out⟩
      | some ad =>
        by_cases hkn : k = n
        · subst hkn
          have HE : Hid (l.drop k = []) := List.drop_eq_nil_of_le (by rw [h1.1]; exact Nat.le_refl _)
          clear hnil h1 h2
          go_wp2
          go_ret2
          rw [HE.out, Nat.sub_self]
          exact ⟨⟨_, _, rfl, Nat.le_refl _, rfl, fun h => absurd h (Nat.lt_irrefl _)⟩, H.out⟩
        · obtain ⟨b1, o1, e, hc1⟩ := h1.2 (by omega)
          cases e
          have HT := Hid.mk'' (strs_tail h1 hmn)
          have i5 : ¬ n = k := fun e => hkn e.symm
          have i6 : k < n := by omega
          clear hc1 hnil h1 h2
          go_wp2
          go_ret2
          exact ⟨⟨_, _, rfl, Nat.le_refl _, HT.out⟩, H.out⟩
where
  Hid.mk'' {p : Prop} (h : p) : Hid p := h

set_option maxHeartbeats 2000000 in
theorem within_no (w : World) (a b : Option Addr) (n m c d : Nat) (l q : List ByteArray) (h1 : Strs w a n l) (h2 : Strs w b m q) (hno : ¬ q <+: l) (hn : n ≤ 1000000) (hm : m ≤ 1000000) :
    Calls Tryd.prog 46 #[.slice a n c, .slice b m d] w fun e w' => e = .returned (.tuple #[.slice none 0 0, .bool false]) ∧ Below w.heap.size w w' := by
  by_cases hmn : n < m
  · have i0 : (n : Int) < m := by omega
    go_enter Tryd.func46, Tryd.ntmps46
    go_wp2
    go_ret2
    exact ⟨rfl, Below.refl _ _⟩
  · have i0 : ¬ (n : Int) < m := by omega
    have HNo : Hid (¬ q <+: l) := hno
    clear hno
    go_enter Tryd.func46, Tryd.ntmps46
    go_wp2
    go_loopw [14] (fun i wr => ∃ k : Nat, k ≤ m ∧ i = .int .i64 k ∧ Hid (Below w.heap.size w wr ∧ l.take k = q.take k)) (fun i _ => m - (intOf i).toNat)
    case atStart => exact ⟨0, Nat.zero_le _, rfl, Below.refl _ _, rfl⟩
    case round =>
      obtain ⟨k, hk, rfl, H⟩ := hrel
      by_cases hlt : k < m
      · obtain ⟨x, hx⟩ : ∃ x, l[k]? = some x := ⟨_, List.getElem?_eq_getElem (by rw [h1.1]; omega)⟩
        obtain ⟨y, hy⟩ : ∃ y, q[k]? = some y := ⟨_, List.getElem?_eq_getElem (by rw [h2.1]; omega)⟩
        obtain ⟨b1, o1, rfl, hc1⟩ := h1.2 (by omega)
        obtain ⟨b2, o2, rfl, hc2⟩ := h2.2 (by omega)
        have q1 : wr.cell? ⟨b1, o1 + k, none⟩ = some (.string x) := (H.out.1.cell (p := ⟨b1, o1 + k, none⟩) (World.block_lt_of_cell? w _ (hc1 k x hx))).trans (hc1 k x hx)
        have q2 : wr.cell? ⟨b2, o2 + k, none⟩ = some (.string y) := (H.out.1.cell (p := ⟨b2, o2 + k, none⟩) (World.block_lt_of_cell? w _ (hc2 k y hy))).trans (hc2 k y hy)
        have i1 : (k : Int) < (m : Int) := by omega
        have i2 : (k : Int) < (n : Int) := by omega
        have i3 : ¬ n ≤ k := by omega
        have i4 : ¬ m ≤ k := by omega
        have HX : Hid (l[k]? = some x ∧ q[k]? = some y) := ⟨hx, hy⟩
        clear hc1 hc2 h1 h2 hx hy HNo
        by_cases he : x = y
        · subst he
          have HT : Hid (l.take (k + 1) = q.take (k + 1)) := by
            show _ = _
            rw [List.take_add_one, List.take_add_one, H.out.2, HX.out.1, HX.out.2]
          go_wp2_with fail
          go_quiet (fail)
          go_wp2_with fail
          go_roundw
          case rel => exact ⟨k + 1, by omega, by simp, below_drewN H.out.1 _, HT.out⟩
          case measure => simp [intOf]; omega
        · have hq : (x.toList == y.toList) = false := by rw [str_beq]; exact decide_eq_false (fun e => he (bs_inj e))
          go_wp2_with fail
          go_quiet (fail)
          go_wp2_with fail
          all_goals first
            | (go_ret2
               exact ⟨rfl, below_drewN H.out.1 _⟩)
            | skip
      · obtain rfl : k = m := by omega
        exfalso
        refine HNo.out ?_
        have : q = l.take k := by
          have hq : q.take k = q := List.take_of_length_le (by rw [h2.1]; exact Nat.le_refl _)
          rw [← hq]; exact H.out.2.symm
        rw [this]; exact List.take_prefix _ _

/-- the rest of names, put together -/
theorem rest_inP (p q : List UInt8) (hp : isP p = true) (hq : isP q = true) : inP p q = decide (parts q <+: parts p) := by
  rw [Bool.eq_iff_iff, decide_eq_true_eq, inP_iff]
  exact ⟨fun h => h.2.2, fun h => ⟨hp, hq, h⟩⟩
theorem map_mk_prefix (a b : List (List UInt8)) : a.map mk <+: b.map mk ↔ a <+: b := by
  constructor
  · rintro ⟨t, h⟩
    have h2 := congrArg (List.map bs) h
    rw [List.map_append] at h2
    have e : ∀ l : List (List UInt8), (l.map mk).map bs = l := fun l => by
      rw [List.map_map]
      have : ∀ x ∈ l, (bs ∘ mk) x = x := fun x _ => bs_mk x
      rw [List.map_congr_left this, List.map_id']
    rw [e, e] at h2
    exact ⟨_, h2⟩
  · rintro ⟨t, rfl⟩; rw [List.map_append]; exact List.prefix_append _ _

set_option maxHeartbeats 4000000 in
theorem refRest_any (p q : ByteArray) (w : World) (hp : p.size ≤ 500000) (hq : q.size ≤ 500000) :
    Calls Tryd.prog 25 #[.string p, .string q] w fun e w' => e = .returned (.tuple #[.string (if isP (bs p) && isP (bs q) then restS p q else ⟨#[]⟩), .bool (inP (bs p) (bs q))]) ∧ Below w.heap.size w w' := by
  have hx := refIs_any p w (by omega)
  have hy := fun w => refIs_any q w (by omega)
  cases h1 : isP (bs p) with
  | false =>
    have hin : inP (bs p) (bs q) = false := by unfold inP; rw [h1]; rfl
    rw [h1] at hx
    rw [hin]
    go_enter Tryd.func25, Tryd.ntmps25
    go_wp2_with (go_at_call 45; refine hx.mono ?_; rintro e w1 ⟨rfl, hB1⟩)
    go_ret2
    exact ⟨rfl, hB1⟩
  | true =>
    rw [h1] at hx
    cases h2 : isP (bs q) with
    | false =>
      have hin : inP (bs p) (bs q) = false := by unfold inP; rw [h1, h2]; rfl
      rw [h2] at hy
      rw [hin]
      go_enter Tryd.func25, Tryd.ntmps25
      go_wp2_with first
        | (go_at_call 45; refine hx.mono ?_; clear hx; rintro e w1 ⟨rfl, hB1⟩; replace hy := hy w1)
        | (go_at_call 45; refine hy.mono ?_; clear hy; rintro e w2 ⟨rfl, hB2⟩)
      go_ret2
      exact ⟨rfl, hB1.trans (hB2.mono hB1.size)⟩
    | true =>
      rw [h2] at hy
      have hip := (isP_iff _).1 h1
      have hiq := (isP_iff _).1 h2
      have hu := fun w => parts_any p w (by omega)
      have hv := fun w => parts_any q w (by omega)
      obtain ⟨A, hA⟩ : ∃ A, A = parts (bs p) := ⟨_, rfl⟩
      obtain ⟨B, hB⟩ : ∃ B, B = parts (bs q) := ⟨_, rfl⟩
      have hrp := restP_parts (bs p) (bs q) h1 h2
      have hin := rest_inP (bs p) (bs q) h1 h2
      rw [← hA, ← hB] at hrp hin
      rw [← hA] at hu hip
      rw [← hB] at hv hiq
      have hgp : Good A := hip.2.1
      have hAl : A.length ≤ 16 := hip.2.2
      have hBl : B.length ≤ 16 := hiq.2.2
      by_cases hpre : B <+: A
      · rw [if_pos hpre] at hrp
        have hrs : (if (true && true) = true then restS p q else ⟨#[]⟩) = mk (glue (A.drop B.length)) := by
          show restS p q = _
          unfold restS; rw [hrp]; rfl
        rw [hrs, hin, decide_eq_true hpre]
        have hml : B.length ≤ A.length := hpre.length_le
        have hBt : B.map mk = (A.map mk).take B.length := by
          rw [← List.map_take]
          congr 1
          exact List.prefix_iff_eq_take.1 hpre
        have HW : Hid (∀ w (a b : Option Addr), Strs w a A.length (A.map mk) → Strs w b B.length (B.map mk) → (a = none → A.length = 0) → Calls Tryd.prog 46 #[.slice a A.length A.length, .slice b B.length B.length] w fun e w' => (∃ a' c', e = .returned (.tuple #[.slice a' (A.length - B.length) c', .bool true]) ∧ A.length - B.length ≤ c' ∧ Strs w a' (A.length - B.length) ((A.map mk).drop B.length)) ∧ Below w.heap.size w w') := fun w a b s1 s2 s3 => within_yes w a b A.length B.length A.length B.length (A.map mk) s1 (by rw [← hBt]; exact s2) hml rfl (by omega) s3
        have hgl : (glue ((A.map mk).drop B.length |>.map bs)).length ≤ 1000000 := by
          rw [← List.map_drop, List.map_map]
          have e : (A.drop B.length).map (bs ∘ mk) = A.drop B.length := by
            have : ∀ x ∈ A.drop B.length, (bs ∘ mk) x = x := fun x _ => bs_mk x
            rw [List.map_congr_left this, List.map_id']
          rw [e]
          have := glue_small (A.drop B.length) (hgp.sub (fun n hn => List.mem_of_mem_drop hn))
          rw [List.length_drop] at this; omega
        have HJ : Hid (∀ w (a : Option Addr) (c : Nat), Strs w a (A.length - B.length) ((A.map mk).drop B.length) → A.length - B.length ≤ c → Calls Tryd.prog 43 #[.slice a (A.length - B.length) c, .string ⟨#[47]⟩] w fun e w' => e = .returned (.string (mk (glue (A.drop B.length)))) ∧ Below w.heap.size w w') := fun w a c s1 hc => by
          have := join_any' w a (A.length - B.length) c _ s1 hc (by omega) hgl
          rw [← List.map_drop, List.map_map] at this
          have e : (A.drop B.length).map (bs ∘ mk) = A.drop B.length := by
            have : ∀ x ∈ A.drop B.length, (bs ∘ mk) x = x := fun x _ => bs_mk x
            rw [List.map_congr_left this, List.map_id']
          rw [e] at this; exact this
        generalize mk (glue (A.drop B.length)) = R at HJ ⊢
        generalize (A.map mk).drop B.length = D at HW HJ
        generalize A.map mk = AM at HW hu
        generalize B.map mk = BM at HW hv
        clear hrp hin hip hiq hgp hrs hBt hgl hA hB
        generalize A.length = n at *
        generalize B.length = m at *
        clear hpre
        go_enter Tryd.func25, Tryd.ntmps25
        go_wp2_with first
          | (go_at_call 45; refine hx.mono ?_; clear hx; rintro e w1 ⟨rfl, hB1⟩; replace hy := hy w1)
          | (go_at_call 45; refine hy.mono ?_; clear hy; rintro e w2 ⟨rfl, hB2⟩; replace hu := hu w2)
          | (go_at_call 14; refine hu.mono ?_; clear hu; rintro e w3 ⟨⟨a3, rfl, s3, n3⟩, hB3⟩; replace hv := hv w3)
          | (go_at_call 14; refine hv.mono ?_; clear hv; rintro e w4 ⟨⟨a4, rfl, s4, n4⟩, hB4⟩; have hw5 := HW.out w4 a3 a4 (s3.kept hB4) s4 n3)
          | (go_at_call 46; refine hw5.mono ?_; clear hw5; rintro e w5 ⟨⟨a5, c5, rfl, hc5, s5⟩, hB5⟩; have hw6 := HJ.out w5 a5 c5 (s5.kept hB5) hc5)
          | (go_at_call 43; refine hw6.mono ?_; clear hw6; rintro e w6 ⟨rfl, hB6⟩)
        go_ret2
        have t2 := hB1.trans (hB2.mono hB1.size)
        have t3 := t2.trans (hB3.mono t2.size)
        have t4 := t3.trans (hB4.mono t3.size)
        have t5 := t4.trans (hB5.mono t4.size)
        exact ⟨rfl, t5.trans (hB6.mono t5.size)⟩
      · rw [if_neg hpre] at hrp
        have hrs : (if (true && true) = true then restS p q else ⟨#[]⟩) = ⟨#[]⟩ := by
          show restS p q = _
          unfold restS; rw [hrp]; rfl
        rw [hrs, hin, decide_eq_false hpre]
        have HW : Hid (∀ w (a b : Option Addr), Strs w a A.length (A.map mk) → Strs w b B.length (B.map mk) → Calls Tryd.prog 46 #[.slice a A.length A.length, .slice b B.length B.length] w fun e w' => e = .returned (.tuple #[.slice none 0 0, .bool false]) ∧ Below w.heap.size w w') := fun w a b s1 s2 => within_no w a b A.length B.length A.length B.length _ _ s1 s2 (fun h => hpre ((map_mk_prefix _ _).1 h)) (by omega) (by omega)
        clear hrp hin hip hiq hgp hrs hA hB hpre
        generalize A.map mk = AM at HW hu
        generalize B.map mk = BM at HW hv
        generalize A.length = n at *
        generalize B.length = m at *
        go_enter Tryd.func25, Tryd.ntmps25
        go_wp2_with first
          | (go_at_call 45; refine hx.mono ?_; clear hx; rintro e w1 ⟨rfl, hB1⟩; replace hy := hy w1)
          | (go_at_call 45; refine hy.mono ?_; clear hy; rintro e w2 ⟨rfl, hB2⟩; replace hu := hu w2)
          | (go_at_call 14; refine hu.mono ?_; clear hu; rintro e w3 ⟨⟨a3, rfl, s3, n3⟩, hB3⟩; replace hv := hv w3)
          | (go_at_call 14; refine hv.mono ?_; clear hv; rintro e w4 ⟨⟨a4, rfl, s4, n4⟩, hB4⟩; have hw5 := HW.out w4 a3 a4 (s3.kept hB4) s4)
          | (go_at_call 46; refine hw5.mono ?_; clear hw5; rintro e w5 ⟨rfl, hB5⟩)
        go_ret2
        have t2 := hB1.trans (hB2.mono hB1.size)
        have t3 := t2.trans (hB3.mono t2.size)
        have t4 := t3.trans (hB4.mono t3.size)
        exact ⟨rfl, t4.trans (hB5.mono t4.size)⟩
end Go.Proofs.YtadmpobnpnbgoaaDoor
