/- The walks of Make, Join, Depth, texts. -/
import Derived.Test.YtadmpobnpnbgoaaDoorNMove
import Derived.Test.YtadmpobnpnbgoaaDoorNShelf
import Derived.Deep.RegionHeld3
import Derived.WalkSmall
namespace Go.Proofs.YtadmpobnpnbgoaaDoor
open Go.RowKit Go.Shelf

/-- what is wrong with the first of some names that is none -/
def firstN : List (List UInt8) → Nat
  | [] => 0
  | n :: r => if okName n then firstN r else (spot n).1
theorem firstN_zero (l : List (List UInt8)) (h : firstN l = 0) : Good l := by
  induction l with
  | nil => intro p hp; cases hp
  | cons q r ih =>
    intro p hp
    unfold firstN at h
    cases hq : okName q with
    | false =>
      rw [hq] at h
      unfold okName at hq
      rw [show (spot q).1 = 0 from h] at hq
      cases hq
    | true =>
      rw [hq] at h
      rcases List.mem_cons.1 hp with e | e
      · rw [e]; exact hq
      · exact ih h p e
theorem firstN_of (l : List (List UInt8)) (h : Good l) : firstN l = 0 := by
  induction l with
  | nil => rfl
  | cons q r ih =>
    unfold firstN
    rw [h q (by simp), ih (fun p hp => h p (by simp [hp]))]; rfl
/-- names make a path -/
def makeP (ns : List (List UInt8)) : List UInt8 × Nat := if firstN ns ≠ 0 then ([], firstN ns) else if 16 < ns.length ∨ 200 < (glue ns).length then ([], 3) else (glue ns, 0)
theorem firstN_drop (l : List ByteArray) (k : Nat) (x : ByteArray) (hx : l[k]? = some x) : firstN ((l.drop k).map bs) = if okName (bs x) then firstN ((l.drop (k + 1)).map bs) else (spot (bs x)).1 := by
  have hk : k < l.length := (List.getElem?_eq_some_iff.1 hx).1
  rw [List.drop_eq_getElem_cons hk, (List.getElem?_eq_some_iff.1 hx).2]
  rfl
theorem glue_small : ∀ (ns : List (List UInt8)), Good ns → (glue ns).length ≤ 33 * ns.length
  | [], _ => by simp [glue_nil]
  | [n], h => by
    rw [glue_one]
    have := (okName_parts n (h n (by simp))).2.1
    simp; omega
  | n :: m :: r, h => by
    rw [glue_cons _ _ (by simp), List.length_append, List.length_cons, List.length_cons]
    have h1 := (okName_parts n (h n (by simp))).2.1
    have h2 := glue_small (m :: r) (fun x hx => h x (by simp [hx]))
    omega
theorem join_glue (l : List ByteArray) : (⟨(Lib.join (l.map (·.data.toList)) [47]).toArray⟩ : ByteArray) = mk (glue (l.map bs)) := rfl

theorem join_any' (w : World) (a : Option Addr) (n c : Nat) (l : List ByteArray) (h : Strs w a n l) (hc : n ≤ c) (hn : n ≤ 1000) (hl : (glue (l.map bs)).length ≤ 1000000) :
    Calls Tryd.prog 43 #[.slice a n c, .string ⟨#[47]⟩] w fun e w' => e = .returned (.string (mk (glue (l.map bs)))) ∧ Below w.heap.size w w' := by
  by_cases h0 : n = 0
  · subst h0
    have e : l = [] := List.length_eq_zero_iff.1 h.1
    subst e
    exact (Tryd.strings_Join_none a c ⟨#[47]⟩ w).mono fun e w' ⟨he, hw⟩ => ⟨he, hw ▸ Below.refl _ _⟩
  · obtain ⟨b, off, rfl, hcl⟩ := h.2 (by omega)
    obtain ⟨x, hx⟩ : ∃ x, l[0]? = some x := ⟨_, List.getElem?_eq_getElem (by rw [h.1]; omega)⟩
    have := Tryd.strings_Join b off c l ⟨#[47]⟩ w hcl (World.block_lt_of_cell? w _ (hcl 0 x hx)) (by rw [h.1]; omega) (by rw [h.1]; exact hc) (by
      show (glue (l.map bs)).length ≤ _; omega)
    rw [h.1] at this
    exact this

/-- two paths put together, or what is wrong -/
def joinR (p q : List UInt8) : List UInt8 × Nat := if firstP [p, q] ≠ 0 then ([], firstP [p, q]) else match joinP p q with
  | none => ([], 3)
  | some x => (x, 0)
set_option maxHeartbeats 2000000 in
theorem Join_any (p q : ByteArray) (w : World) (hp : p.size ≤ 200000) (hq : q.size ≤ 200000) :
    Calls Tryd.prog 19 #[.string p, .string q] w fun e w' => e = .returned (.tuple #[.string (mk (joinR (bs p) (bs q)).1), .int .i64 ((joinR (bs p) (bs q)).2 : Int)]) ∧ Below w.heap.size w w' := by
  have hf := firstErr_any (w.alloc (.cells #[.string p, .string q] 9)) (some ⟨w.heap.size, 0, none⟩) 2 2 [p, q] (strs_new w [p, q] _ 2 rfl) (by simp; unfold maxLen; omega) (by omega)
  have hB0 : Below w.heap.size w (w.alloc (.cells #[.string p, .string q] 9)) := (Below.refl _ w).alloc (Nat.le_refl _) _
  have hjr : joinR (bs p) (bs q) = if firstP [bs p, bs q] ≠ 0 then ([], firstP [bs p, bs q]) else (bs (joinS p q), joinE p q) := by
    unfold joinR joinS joinE
    split
    · rfl
    · rw [bs_mk]
      cases joinP (bs p) (bs q) <;> rfl
  have hj := fun w => join_any p q w (by omega) (by omega)
  rw [hjr]
  clear hjr
  simp only [List.map_cons, List.map_nil] at hf
  generalize firstP [bs p, bs q] = fe at hf ⊢
  by_cases h0 : fe = 0
  · subst h0
    simp only [ne_eq, not_true_eq_false, if_false]
    rw [mk_bs]
    generalize joinS p q = T at hj ⊢
    generalize joinE p q = E at hj ⊢
    go_enter Tryd.func19, Tryd.ntmps19
    go_wp2_with first
      | (go_at_call 40; refine hf.mono ?_; clear hf; rintro e w1 ⟨rfl, hB1⟩)
      | (go_at_call 41; refine (hj _).mono ?_; clear hj; rintro e w3 ⟨rfl, hB3⟩)
    go_ret2
    exact ⟨rfl, (hB0.trans (hB1.mono (by simp))).trans (hB3.mono (by have := hB0.size; have := hB1.size; omega))⟩
  · have j0 : ¬ (fe : Int) = 0 := by omega
    rw [if_pos h0]
    go_enter Tryd.func19, Tryd.ntmps19
    go_wp2_with (go_at_call 40; refine hf.mono ?_; clear hf; rintro e w1 ⟨rfl, hB1⟩)
    go_ret2
    exact ⟨rfl, hB0.trans (hB1.mono (by simp))⟩

/-- how many names -/
def depthP (p : List UInt8) : Int := if isP p then ((parts p).length : Int) else -1
theorem Depth_any (p : ByteArray) (w : World) (hp : p.size ≤ 200000) :
    Calls Tryd.prog 18 #[.string p] w fun e w' => e = .returned (.int .i64 (depthP (bs p))) ∧ Below w.heap.size w w' := by
  have hx := isPath_any p w (by unfold maxLen; omega)
  have hy := fun w => count_any p w (by omega)
  unfold depthP
  cases h : isP (bs p) with
  | false =>
    rw [h] at hx
    go_enter Tryd.func18, Tryd.ntmps18
    go_wp2_with (go_at_call 38; refine hx.mono ?_; clear hx; rintro e w1 ⟨rfl, hB1⟩)
    go_ret
    exact ⟨rfl, hB1⟩
  | true =>
    rw [h] at hx
    generalize (parts (bs p)).length = m at hy ⊢
    go_enter Tryd.func18, Tryd.ntmps18
    go_wp2_with first
      | (go_at_call 38; refine hx.mono ?_; clear hx; rintro e w1 ⟨rfl, hB1⟩)
      | (go_at_call 39; refine (hy _).mono ?_; clear hy; rintro e w2 ⟨rfl, hB2⟩)
    go_ret
    exact ⟨rfl, hB1.trans (hB2.mono hB1.size)⟩

set_option maxHeartbeats 2000000 in
/-- the same texts -/
theorem texts_yes (w : World) (a b : Option Addr) (n c d : Nat) (l : List ByteArray) (h1 : Strs w a n l) (h2 : Strs w b n l) (hn : n ≤ 1000000) :
    Calls Tryd.prog 16 #[.slice a n c, .slice b n d] w fun e w' => e = .returned (.bool true) ∧ Below w.heap.size w w' := by
  go_enter Tryd.func16, Tryd.ntmps16
  go_wp2
  go_loopw [13] (fun i wr => ∃ k : Nat, k ≤ n ∧ i = .int .i64 k ∧ Hid (Below w.heap.size w wr)) (fun i _ => n - (intOf i).toNat)
  case atStart => exact ⟨0, Nat.zero_le _, rfl, Below.refl _ _⟩
  case round =>
    obtain ⟨k, hk, rfl, H⟩ := hrel
    by_cases hlt : k < n
    · obtain ⟨x, hx⟩ : ∃ x, l[k]? = some x := ⟨_, List.getElem?_eq_getElem (by rw [h1.1]; exact hlt)⟩
      obtain ⟨b1, o1, rfl, hc1⟩ := h1.2 (by omega)
      obtain ⟨b2, o2, rfl, hc2⟩ := h2.2 (by omega)
      have q1 : wr.cell? ⟨b1, o1 + k, none⟩ = some (.string x) := (H.out.cell (p := ⟨b1, o1 + k, none⟩) (World.block_lt_of_cell? w _ (hc1 k x hx))).trans (hc1 k x hx)
      have q2 : wr.cell? ⟨b2, o2 + k, none⟩ = some (.string x) := (H.out.cell (p := ⟨b2, o2 + k, none⟩) (World.block_lt_of_cell? w _ (hc2 k x hx))).trans (hc2 k x hx)
      have i1 : (k : Int) < (n : Int) := by omega
      have i2 : ¬ n ≤ k := by omega
      clear hc1 hc2 h1 h2 hx
      go_wp2_with fail
      go_quiet (fail)
      go_wp2_with fail
      go_roundw
      case rel => exact ⟨k + 1, by omega, by simp, below_drewN H.out _⟩
      case measure => simp [intOf]; omega
    · obtain rfl : k = n := by omega
      go_wp2
      go_ret
      exact ⟨rfl, H.out⟩
end Go.Proofs.YtadmpobnpnbgoaaDoor
