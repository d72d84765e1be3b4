/- The walks of Make, Join, Depth, texts. -/
import Derived.Test.YtadmpobnpnbgoaaNMove
import Derived.Test.YtadmpobnpnbgoaaNShelf
import Derived.Deep.RegionHeld3
import Derived.WalkSmall
namespace Go.Proofs.Ytadmpobnpnbgoaa
open Go.RowKit Go.Shelf

/-- what is wrong with the first of some names that is none -/
def firstN : List (List UInt8) → Nat
  | [] => 0
  | n :: r => if okName n then firstN r else (spot n).1
theorem firstN_zero (l : List (List UInt8)) (h : firstN l = 0) : Good l := by
  induction l with
  | nil => intro p hp; cases hp
  | cons q r ih =>
    intro p hp
    unfold firstN at h
    cases hq : okName q with
    | false =>
      rw [hq] at h
      unfold okName at hq
      rw [show (spot q).1 = 0 from h] at hq
      cases hq
    | true =>
      rw [hq] at h
      rcases List.mem_cons.1 hp with e | e
      · rw [e]; exact hq
      · exact ih h p e
theorem firstN_of (l : List (List UInt8)) (h : Good l) : firstN l = 0 := by
  induction l with
  | nil => rfl
  | cons q r ih =>
    unfold firstN
    rw [h q (by simp), ih (fun p hp => h p (by simp [hp]))]; rfl
/-- names make a path -/
def makeP (ns : List (List UInt8)) : List UInt8 × Nat := if firstN ns ≠ 0 then ([], firstN ns) else if 16 < ns.length ∨ 200 < (glue ns).length then ([], 3) else (glue ns, 0)
theorem firstN_drop (l : List ByteArray) (k : Nat) (x : ByteArray) (hx : l[k]? = some x) : firstN ((l.drop k).map bs) = if okName (bs x) then firstN ((l.drop (k + 1)).map bs) else (spot (bs x)).1 := by
  have hk : k < l.length := (List.getElem?_eq_some_iff.1 hx).1
  rw [List.drop_eq_getElem_cons hk, (List.getElem?_eq_some_iff.1 hx).2]
  rfl
theorem glue_small : ∀ (ns : List (List UInt8)), Good ns → (glue ns).length ≤ 33 * ns.length
  | [], _ => by simp [glue_nil]
  | [n], h => by
    rw [glue_one]
    have := (okName_parts n (h n (by simp))).2.1
    simp; omega
  | n :: m :: r, h => by
    rw [glue_cons _ _ (by simp), List.length_append, List.length_cons, List.length_cons]
    have h1 := (okName_parts n (h n (by simp))).2.1
    have h2 := glue_small (m :: r) (fun x hx => h x (by simp [hx]))
    omega
theorem join_glue (l : List ByteArray) : (⟨(Lib.join (l.map (·.data.toList)) [47]).toArray⟩ : ByteArray) = mk (glue (l.map bs)) := rfl

theorem join_any' (w : World) (a : Option Addr) (n c : Nat) (l : List ByteArray) (h : Strs w a n l) (hc : n ≤ c) (hn : n ≤ 1000) (hl : (glue (l.map bs)).length ≤ 1000000) :
    Calls Try.prog 11 #[.slice a n c, .string ⟨#[47]⟩] w fun e w' => e = .returned (.string (mk (glue (l.map bs)))) ∧ Below w.heap.size w w' := by
  by_cases h0 : n = 0
  · subst h0
    have e : l = [] := List.length_eq_zero_iff.1 h.1
    subst e
    exact (Try.strings_Join_none a c ⟨#[47]⟩ w).mono fun e w' ⟨he, hw⟩ => ⟨he, hw ▸ Below.refl _ _⟩
  · obtain ⟨b, off, rfl, hcl⟩ := h.2 (by omega)
    obtain ⟨x, hx⟩ : ∃ x, l[0]? = some x := ⟨_, List.getElem?_eq_getElem (by rw [h.1]; omega)⟩
    have := Try.strings_Join b off c l ⟨#[47]⟩ w hcl (World.block_lt_of_cell? w _ (hcl 0 x hx)) (by rw [h.1]; omega) (by rw [h.1]; exact hc) (by
      show (glue (l.map bs)).length ≤ _; omega)
    rw [h.1] at this
    exact this

set_option maxRecDepth 20000 in
set_option maxHeartbeats 4000000 in
theorem Make_any (w : World) (a : Option Addr) (n c : Nat) (l : List ByteArray) (h : Strs w a n l) (hl : ∀ x ∈ l, x.size ≤ maxLen) (hc : n ≤ c) (hn : n ≤ 1000) :
    Calls Try.prog 5 #[.slice a n c] w fun e w' => e = .returned (.tuple #[.string (mk (makeP (l.map bs)).1), .int .i64 ((makeP (l.map bs)).2 : Int)]) ∧ Below w.heap.size w w' := by
  have H0 : Hid (Strs w a n l) := h
  go_enter Try.func5, Try.ntmps5
  go_wp2
  go_loopw [10] (fun i wr => ∃ k : Nat, k ≤ n ∧ i = .int .i64 k ∧ Hid (Below w.heap.size w wr ∧ firstN (l.map bs) = firstN ((l.drop k).map bs))) (fun i _ => n - (intOf i).toNat)
  case atStart => exact ⟨0, Nat.zero_le _, rfl, Below.refl _ _, rfl⟩
  case round =>
    obtain ⟨k, hk, rfl, H⟩ := hrel
    by_cases hlt : k < n
    · obtain ⟨b, off, rfl, hcl⟩ := h.2 (by omega)
      obtain ⟨x, hx⟩ : ∃ x, l[k]? = some x := ⟨_, List.getElem?_eq_getElem (by rw [h.1]; exact hlt)⟩
      have hc0 := hcl k x hx
      have hcr : wr.cell? ⟨b, off + k, none⟩ = some (.string x) := (H.out.1.cell (p := ⟨b, off + k, none⟩) (World.block_lt_of_cell? w _ hc0)).trans hc0
      have hp := check_any x wr (hl x (List.mem_of_getElem? hx))
      have HX : Hid (l[k]? = some x) := hx
      obtain ⟨e1, h1⟩ : ∃ e1, e1 = (spot (bs x)).1 := ⟨_, rfl⟩
      obtain ⟨e2, h2⟩ : ∃ e2, e2 = (spot (bs x)).2 := ⟨_, rfl⟩
      simp only [spotV] at hp
      rw [← h1, ← h2] at hp
      have H1 : Hid (e1 = (spot (bs x)).1) := h1
      have i1 : (k : Int) < (n : Int) := by omega
      have i2 : ¬ n ≤ k := by omega
      clear h1 h2 hcl hc0 h hx hl H0
      by_cases h0 : e1 = 0
      · subst h0
        have HI : Hid (okName (bs x) = true) := by show _ = _; unfold okName; rw [← H1.out]; rfl
        have HN : Hid (firstN (l.map bs) = firstN ((l.drop (k + 1)).map bs)) := by
          show _ = _
          rw [H.out.2, firstN_drop l k x HX.out, if_pos HI.out]
        go_wp2_with (go_at_call 10; refine hp.mono ?_; clear hp; rintro e w1 ⟨rfl, hB1⟩; obtain ⟨q0, q1⟩ := box2_at w1 (.int .i64 0) (.int .i64 (e2 : Int)))
        go_roundw
        case rel => exact ⟨k + 1, by omega, by simp, (H.out.1.trans (hB1.mono H.out.1.size)).alloc (by have := H.out.1.size; have := hB1.size; omega) _, HN.out⟩
        case measure => simp [intOf]; omega
      · have j0 : ¬ (e1 : Int) = 0 := by omega
        have HI : Hid (okName (bs x) = false) := by show _ = _; unfold okName; rw [← H1.out]; simpa using h0
        have HN : Hid (makeP (l.map bs) = ([], e1)) := by
          show _ = _
          have hf : firstN (l.map bs) = e1 := by rw [H.out.2, firstN_drop l k x HX.out, HI.out, H1.out]; rfl
          unfold makeP
          rw [hf, if_pos h0]
        go_wp2_with (go_at_call 10; refine hp.mono ?_; clear hp; rintro e w1 ⟨rfl, hB1⟩; obtain ⟨q0, q1⟩ := box2_at w1 (.int .i64 (e1 : Int)) (.int .i64 (e2 : Int)))
        go_quiet (fail)
        go_wp2_with fail
        go_ret2
        rw [HN.out]
        exact ⟨rfl, below_drewN ((H.out.1.trans (hB1.mono H.out.1.size)).alloc (by have := H.out.1.size; have := hB1.size; omega) _) _⟩
    · obtain rfl : k = n := by omega
      have hF : firstN (l.map bs) = 0 := by
        rw [H.out.2, List.drop_eq_nil_of_le (by rw [h.1]; exact Nat.le_refl _)]; rfl
      have hG := firstN_zero _ hF
      have hgs := glue_small _ hG
      rw [List.length_map, h.1] at hgs
      have hm : makeP (l.map bs) = if 16 < k ∨ 200 < (glue (l.map bs)).length then ([], 3) else (glue (l.map bs), 0) := by
        unfold makeP
        rw [hF, List.length_map, h.1]; rfl
      have HS : Hid (Strs wr a k l) := by
        refine ⟨h.1, fun h0 => ?_⟩
        obtain ⟨b, off, e, hcl⟩ := h.2 h0
        exact ⟨b, off, e, fun j x hx => (H.out.1.cell (p := ⟨b, off + j, none⟩) (World.block_lt_of_cell? w _ (hcl j x hx))).trans (hcl j x hx)⟩
      clear h hl hF hG H0
      by_cases h16 : 16 < k
      · have i16 : (16 : Int) < k := by omega
        rw [if_pos (.inl h16)] at hm
        have HM : Hid (makeP (l.map bs) = ([], 3)) := hm
        clear hm
        go_wp2
        go_ret2
        rw [HM.out]
        exact ⟨rfl, H.out.1⟩
      · have i16 : ¬ (16 : Int) < k := by omega
        have hj := join_any' wr a k c l HS.out hc (by omega) (by omega)
        have hsz : (mk (glue (l.map bs))).size = (glue (l.map bs)).length := by rw [← bs_len, bs_mk]
        have HM : Hid (makeP (l.map bs) = if 200 < (mk (glue (l.map bs))).size then ([], 3) else (bs (mk (glue (l.map bs))), 0)) := by
          show _ = _
          rw [hm, hsz, bs_mk]
          by_cases h2 : 200 < (glue (l.map bs)).length
          · rw [if_pos (.inr h2), if_pos h2]
          · rw [if_neg (by omega), if_neg h2]
        clear hm
        generalize mk (glue (l.map bs)) = P at hj HM hsz
        by_cases h2 : 200 < P.size
        · have i2 : (200 : Int) < P.size := by omega
          have HM' : Hid (makeP (l.map bs) = ([], 3)) := by show _ = _; rw [HM.out, if_pos h2]
          clear HM
          go_wp2_with (go_at_call 11; refine hj.mono ?_; clear hj; rintro e w1 ⟨rfl, hB1⟩)
          go_ret2
          rw [HM'.out]
          exact ⟨rfl, H.out.1.trans (hB1.mono H.out.1.size)⟩
        · have i2 : ¬ (200 : Int) < P.size := by omega
          have HM' : Hid (makeP (l.map bs) = (bs P, 0)) := by show _ = _; rw [HM.out, if_neg h2]
          clear HM
          go_wp2_with (go_at_call 11; refine hj.mono ?_; clear hj; rintro e w1 ⟨rfl, hB1⟩)
          go_ret2
          rw [HM'.out]
          simp only
          rw [mk_bs]
          exact ⟨rfl, H.out.1.trans (hB1.mono H.out.1.size)⟩

/-- two paths put together, or what is wrong -/
def joinR (p q : List UInt8) : List UInt8 × Nat := if firstP [p, q] ≠ 0 then ([], firstP [p, q]) else match joinP p q with
  | none => ([], 3)
  | some x => (x, 0)
/-- how many names -/
def depthP (p : List UInt8) : Int := if isP p then ((parts p).length : Int) else -1
set_option maxHeartbeats 2000000 in
/-- the same texts -/
theorem texts_yes (w : World) (a b : Option Addr) (n c d : Nat) (l : List ByteArray) (h1 : Strs w a n l) (h2 : Strs w b n l) (hn : n ≤ 1000000) :
    Calls Try.prog 7 #[.slice a n c, .slice b n d] w fun e w' => e = .returned (.bool true) ∧ Below w.heap.size w w' := by
  go_enter Try.func7, Try.ntmps7
  go_wp2
  go_loopw [13] (fun i wr => ∃ k : Nat, k ≤ n ∧ i = .int .i64 k ∧ Hid (Below w.heap.size w wr)) (fun i _ => n - (intOf i).toNat)
  case atStart => exact ⟨0, Nat.zero_le _, rfl, Below.refl _ _⟩
  case round =>
    obtain ⟨k, hk, rfl, H⟩ := hrel
    by_cases hlt : k < n
    · obtain ⟨x, hx⟩ : ∃ x, l[k]? = some x := ⟨_, List.getElem?_eq_getElem (by rw [h1.1]; exact hlt)⟩
      obtain ⟨b1, o1, rfl, hc1⟩ := h1.2 (by omega)
      obtain ⟨b2, o2, rfl, hc2⟩ := h2.2 (by omega)
      have q1 : wr.cell? ⟨b1, o1 + k, none⟩ = some (.string x) := (H.out.cell (p := ⟨b1, o1 + k, none⟩) (World.block_lt_of_cell? w _ (hc1 k x hx))).trans (hc1 k x hx)
      have q2 : wr.cell? ⟨b2, o2 + k, none⟩ = some (.string x) := (H.out.cell (p := ⟨b2, o2 + k, none⟩) (World.block_lt_of_cell? w _ (hc2 k x hx))).trans (hc2 k x hx)
      have i1 : (k : Int) < (n : Int) := by omega
      have i2 : ¬ n ≤ k := by omega
      clear hc1 hc2 h1 h2 hx
      go_wp2_with fail
      go_quiet (fail)
      go_wp2_with fail
      go_roundw
      case rel => exact ⟨k + 1, by omega, by simp, below_drewN H.out _⟩
      case measure => simp [intOf]; omega
    · obtain rfl : k = n := by omega
      go_wp2
      go_ret
      exact ⟨rfl, H.out⟩
end Go.Proofs.Ytadmpobnpnbgoaa
