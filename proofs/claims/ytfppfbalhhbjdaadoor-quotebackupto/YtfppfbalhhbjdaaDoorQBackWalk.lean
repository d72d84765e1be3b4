/- The walk of the law QuoteBack. -/
import Derived.Test.YtfppfbalhhbjdaaDoorQLine
import Derived.Test.YtfppfbalhhbjdaaDoorQWakes
namespace Go.Proofs.YtfppfbalhhbjdaaDoor
open Go.RowKit

/-- what Words answers of a line that is right -/
theorem words_right {s : ByteArray} {w W : World} {e : Ending} {ws : List (List UInt8)} (hs : wordsL (bs s) 0 = .ok ws) (h : WordsPost s w e W) :
    ∃ a c, e = .returned (.tuple #[.slice a ws.length c, .agg #[.int .i64 0, .int .i64 0]]) ∧ Strs W a ws.length (ws.map mk) ∧ Below w.heap.size w W := by
  obtain ⟨h1, hB⟩ := h
  rcases h1 with ⟨ws', v, hr, rfl, hrow⟩ | ⟨p, hr, _⟩
  · rw [hs] at hr
    cases hr
    obtain ⟨a, c, rfl, _, hst⟩ := wrow_strs hrow
    exact ⟨a, c, rfl, hst, hB⟩
  · rw [hs] at hr; cases hr
theorem box_new (w : World) : Box2 (w.alloc (.cells #[.int .i64 0, .int .i64 0] 30)) w.heap.size (.int .i64 0) (.int .i64 0) := Box2.new _ _ _
theorem sum_take : ∀ (l : List ByteArray) (k : Nat), ((l.take k).map ByteArray.size).sum ≤ (l.map ByteArray.size).sum
  | [], k => by simp
  | x :: r, 0 => by simp
  | x :: r, k + 1 => by
    have := sum_take r k
    simp only [List.take_succ_cons, List.map_cons, List.sum_cons]; omega
theorem sum_mem : ∀ (l : List ByteArray) (x : ByteArray), x ∈ l → x.size ≤ (l.map ByteArray.size).sum
  | [], x, h => by cases h
  | y :: r, x, h => by
    simp only [List.map_cons, List.sum_cons]
    rcases List.mem_cons.1 h with rfl | h
    · omega
    · have := sum_mem r x h; omega
theorem line_small (l : List ByteArray) (k : Nat) (h : (l.map ByteArray.size).sum + l.length ≤ 1048576) : (lineL ((l.take k).map bs)).length ≤ 10000000 := by
  have h1 := lineL_len ((l.take k).map bs)
  have h2 := sum_take l k
  have h3 : ((l.take k).map bs).map List.length = (l.take k).map ByteArray.size := by
    rw [List.map_map]
    refine List.map_congr_left fun x _ => ?_
    exact bs_len x
  rw [h3, List.length_map, List.length_take] at h1
  omega

set_option maxRecDepth 20000 in
set_option maxHeartbeats 4000000 in
theorem quoteBack_walk (a : Option Addr) (n c : Nat) (l : List ByteArray) (w : World) (h : Strs w a n l) (hb : (l.map ByteArray.size).sum + l.length ≤ 1048576) (hT : Tabs w) :
    Calls Tryd.prog 7 #[.slice a n c] w fun e w' => e = .returned (.bool true) ∧ Below w.heap.size w w' := by
  have hn : n ≤ 1048576 := by have := h.1; omega
  have hx : ∀ x ∈ l, x.size ≤ 1048576 := fun x hx => by have := sum_mem l x hx; omega
  have hsm := fun k => line_small l k hb
  have hsz : (mk (lineL (l.map bs))).size ≤ 10000000 := by
    have := hsm l.length
    rw [List.take_length] at this
    rw [← bs_len, bs_mk]; exact this
  have HL : Hid (∀ W, Below w.heap.size w W → Calls Tryd.prog 24 #[.slice a n c] W fun e w' => e = .returned (.string (mk (lineL (l.map bs)))) ∧ Below W.heap.size W w') := fun W hB =>
    line_any W a n c l (h.kept hB) (hT.below hB) hx hn (fun k => by have := hsm k; omega)
  have HW : Hid (∀ W, Below w.heap.size w W → Calls Tryd.prog 17 #[.string (mk (lineL (l.map bs)))] W fun e W' => ∃ a' c', e = .returned (.tuple #[.slice a' n c', .agg #[.int .i64 0, .int .i64 0]]) ∧ Strs W' a' n l ∧ Below W.heap.size W W') := fun W hB => by
    refine (words_any _ W (hT.below hB) (by omega)).mono fun e W' hp => ?_
    have hr : wordsL (bs (mk (lineL (l.map bs)))) 0 = .ok (l.map bs) := by rw [bs_mk]; exact wordsL_line _
    obtain ⟨a', c', he, hs, hB'⟩ := words_right hr hp
    rw [List.length_map, h.1] at he hs
    have e1 : (l.map bs).map mk = l := by
      rw [List.map_map]
      conv => rhs; rw [← List.map_id l]
      exact List.map_congr_left fun x _ => mk_bs x
    rw [e1] at hs
    exact ⟨a', c', he, hs, hB'⟩
  generalize mk (lineL (l.map bs)) = Z at *
  clear hsm hb hsz
  have HSt : Hid (Strs w a n l) := h
  go_enter Tryd.func7, Tryd.ntmps7
  go_wp2_with (go_at_call 9; refine (wakes_any _ hT).mono ?_; rintro e w1 ⟨rfl, hB1⟩; have HB1 : Hid (Below w.heap.size w w1) := hB1; clear hB1)
  go_loopw [13] (fun i wr => ∃ k : Nat, k ≤ n ∧ i = .int .i64 k ∧ Hid (Below w.heap.size w wr)) (fun i _ => n - (intOf i).toNat)
  case atStart => exact ⟨0, Nat.zero_le _, rfl, HB1.out⟩
  case round =>
    obtain ⟨k, hk, rfl, H⟩ := hrel
    by_cases hlt : k < n
    · obtain ⟨x, hxk⟩ : ∃ x, l[k]? = some x := ⟨_, List.getElem?_eq_getElem (by rw [h.1]; exact hlt)⟩
      obtain ⟨b1, o1, rfl, hc1⟩ := h.2 (by omega)
      have q1 : wr.cell? ⟨b1, o1 + k, none⟩ = some (.string x) := (H.out.cell (p := ⟨b1, o1 + k, none⟩) (World.block_lt_of_cell? w _ (hc1 k x hxk))).trans (hc1 k x hxk)
      have i1 : (k : Int) < (n : Int) := by omega
      have i2 : ¬ n ≤ k := by omega
      have hxs : x.size ≤ 1048576 := hx x (List.mem_of_getElem? hxk)
      have c1 := fun W hT => qquote_any x W hT (by omega)
      have hqs : (mk (quoteL (bs x))).size ≤ 5000000 := by
        rw [← bs_len, bs_mk]
        have := qs_len _ (bs x) (Nat.le_refl _)
        rw [bs_len] at this
        simp [quoteL]; omega
      have c2 := fun W hT => unquote_any (mk (quoteL (bs x))) W hT (by omega)
      rw [bs_mk, show unqV (quoteL (bs x)) = .tuple #[.string x, .bool true] by unfold unqV; rw [unq_quote]; simp [mk_bs]] at c2
      generalize mk (quoteL (bs x)) = Y at *
      have hT1 := hT.below H.out
      have hxx : (x.toList == x.toList) = true := by simp
      clear hc1 hxk h hx HL HW hqs HSt
      go_wp2_with first
        | (go_at_call 15; refine (c1 _ hT1).mono ?_; rintro e w2 ⟨rfl, hB2⟩; have H2 : Hid (Below w.heap.size w w2) := H.out.trans (hB2.mono H.out.size); have hT2 := hT1.below hB2; clear hB2)
        | (go_at_call 10; refine (c2 _ hT2).mono ?_; rintro e w3 ⟨rfl, hB3⟩; have H3 : Hid (Below w.heap.size w w3) := H2.out.trans (hB3.mono H2.out.size); clear hB3)
      go_roundw
      case rel => exact ⟨k + 1, by omega, by simp, H3.out⟩
      case measure => simp [intOf]; omega
    · obtain rfl : k = n := by omega
      have ilt : ¬ (k : Int) < (k : Int) := by omega
      have HB : Hid (Below w.heap.size w wr) := H
      clear h hx H HB1
      go_wp2_with first
        | (go_at_call 24; refine (HL.out _ HB.out).mono ?_; rintro e w2 ⟨rfl, hB2⟩; have H2 : Hid (Below w.heap.size w w2) := HB.out.trans (hB2.mono HB.out.size); clear hB2)
        | (go_at_call 17; refine (HW.out _ H2.out).mono ?_; rintro e w3 ⟨a', c', rfl, hS3, hB3⟩; obtain ⟨q0, q1⟩ := (box_new w3).cell; have H3 : Hid (Below w.heap.size w (w3.alloc (.cells #[.int .i64 0, .int .i64 0] 30)) ∧ Strs (w3.alloc (.cells #[.int .i64 0, .int .i64 0] 30)) a' k l) := (⟨(H2.out.trans (hB3.mono H2.out.size)).alloc (by have := H2.out.size; have := hB3.size; omega) _, hS3.kept ((Below.refl _ _).alloc (Nat.le_refl _) _)⟩); clear hS3 hB3)
        | (go_at_call 19; refine (same_yes _ _ _ k _ _ l H3.out.2 (HSt.out.kept H3.out.1) (by omega)).mono ?_; rintro e w4 ⟨rfl, hB4⟩; have H4 : Hid (Below w.heap.size w w4) := H3.out.1.trans (hB4.mono H3.out.1.size); clear hB4)
        | (go_at_call 9; refine (wakes_any _ (hT.below H4.out)).mono ?_; rintro e w5 ⟨rfl, hB5⟩; have H5 : Hid (Below w.heap.size w w5) := H4.out.trans (hB5.mono H4.out.size); clear hB5)
      go_ret
      exact ⟨rfl, H5.out⟩
end Go.Proofs.YtfppfbalhhbjdaaDoor
