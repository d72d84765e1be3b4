import Derived.Test.YtdchmmdndgbllaaDoorY22
import Derived.Test.YtdchmmdndgbllaaDoorY23
import Derived.Test.YtdchmmdndgbllaaDoorY06
/- The walks of Word and Line, and of the law's same. -/
namespace Go.Proofs.YtdchmmdndgbllaaDoor
open Go.RowKit

/-- a slice of texts -/
theorem wrow_strs {w : World} {base : Nat} {v : Value} {ws : List (List UInt8)} (h : w.ownsRow base 9 1 v ws.length (wcells ws)) : ∃ a c, v = .slice a ws.length c ∧ ws.length ≤ c ∧ Strs w a ws.length (ws.map mk) := by
  rcases h.2 with ⟨rfl, h0⟩ | ⟨g, cap, cur, rfl, _, hg, hc, _, _, ht⟩
  · rw [h0]
    have : ws = [] := List.eq_nil_of_length_eq_zero h0
    subst this
    exact ⟨none, 0, rfl, Nat.le_refl _, rfl, fun h => by cases h⟩
  · refine ⟨_, cap, rfl, hc, by simp, fun _ => ⟨g, 0, rfl, fun j x hx => ?_⟩⟩
    have hj : j < ws.length := by have := (List.getElem?_eq_some_iff.1 hx).1; simpa using this
    have e : (cur.toList.take (ws.length * 1))[j]? = some (.string x) := by
      rw [ht]
      simp only [wcells, List.getElem?_map] at hx ⊢
      cases hw : ws[j]? with
      | none => rw [hw] at hx; cases hx
      | some z => rw [hw] at hx; cases hx; rfl
    rw [List.getElem?_take_of_lt (by omega)] at e
    simp only [World.cell?, hg]
    rw [Nat.zero_add, ← Array.getElem?_toList]; exact e

theorem word_any (s : ByteArray) (w : World) (hT : Tabs w) (hs : s.size ≤ 8796093022208) :
    Calls Tryd.prog 40 #[.string s] w fun e w' => e = .returned (.string (mk (wordL (bs s)))) ∧ Below w.heap.size w w' := by
  have c1 := qplain_any s w hT (by unfold maxLen; omega)
  have c2 := fun W hT => qquote_any s W hT hs
  cases hp : plainL (bs s) with
  | true =>
    rw [hp] at c1
    rw [show mk (wordL (bs s)) = s by unfold wordL; rw [if_pos hp, mk_bs]]
    go_enter Tryd.func40, Tryd.ntmps40
    go_wp2_with (go_at_call 34; refine c1.mono ?_; rintro e w1 ⟨rfl, hB1⟩)
    go_ret
    exact ⟨rfl, hB1⟩
  | false =>
    rw [hp] at c1
    rw [show wordL (bs s) = quoteL (bs s) by unfold wordL; rw [if_neg (by rw [hp]; decide)]]
    generalize mk (quoteL (bs s)) = Z at *
    go_enter Tryd.func40, Tryd.ntmps40
    go_wp2_with first
      | (go_at_call 34; refine c1.mono ?_; rintro e w1 ⟨rfl, hB1⟩; have hT1 := hT.below hB1)
      | (go_at_call 19; refine (c2 _ hT1).mono ?_; rintro e w2 ⟨rfl, hB2⟩)
    go_ret
    exact ⟨rfl, hB1.trans (hB2.mono hB1.size)⟩

abbrev Bld (w0 : World) (l : List UInt8) (W : World) : Prop := BldAt w0.heap.size w0.heap.size l W
theorem Bld.below {w0 W W' : World} {l : List UInt8} (h : Bld w0 l W) (hb : Below W.heap.size W W') : Bld w0 l W' := by
  have key : ∀ p, Lib.BuilderAt 53 5 w0.heap.size w0.heap.size p (cellsOf l) W → Lib.BuilderAt 53 5 w0.heap.size w0.heap.size p (cellsOf l) W' := by
    rintro p ⟨h0, v, hv, ho, hn⟩
    exact ⟨h0, v, (hb.block _ (Array.getElem?_eq_some_iff.1 hv).1).trans hv, ho.kept (row := none) ⟨hb.os, hb.tape, hb.output, hb.size, fun k hk _ => hb.block k hk⟩ (by cases v.ownBlock <;> simp), hn⟩
  rcases h with h | h
  · exact .inl (key _ h)
  · exact .inr (key _ h)
theorem bld_new (w : World) : Bld w [] (w.alloc (.cells #[.pointer none, .slice none 0 0] 53)) :=
  .inl ⟨Nat.le_refl _, .slice none 0 0, World.alloc_heap_new _ _, World.ownsRow_nil _ _ _ _, fun h => by cases h⟩
theorem take_snoc (l : List ByteArray) (k : Nat) (x : ByteArray) (hx : l[k]? = some x) : (l.take (k + 1)).map bs = (l.take k).map bs ++ [bs x] := by
  obtain ⟨hk, rfl⟩ := List.getElem?_eq_some_iff.1 hx
  rw [List.take_succ_eq_append_getElem hk, List.map_append]; rfl

set_option maxHeartbeats 2000000 in
theorem line_any (w : World) (a : Option Addr) (n c : Nat) (l : List ByteArray) (h : Strs w a n l) (hT : Tabs w) (hl : ∀ x ∈ l, x.size ≤ 1048576) (hn : n ≤ 1048576) (hsum : ∀ k, (lineL ((l.take k).map bs)).length ≤ 100000000) :
    Calls Tryd.prog 20 #[.slice a n c] w fun e w' => e = .returned (.string (mk (lineL (l.map bs)))) ∧ Below w.heap.size w w' := by
  go_enter Tryd.func20, Tryd.ntmps20
  go_wp2
  go_loopw [8] (fun i wr => ∃ k : Nat, k ≤ n ∧ i = .int .i64 k ∧ Hid (Bld w (lineL ((l.take k).map bs)) wr ∧ Below w.heap.size w wr)) (fun i _ => n - (intOf i).toNat)
  case atStart => exact ⟨0, Nat.zero_le _, rfl, by simpa [lineL] using bld_new w, (Below.refl _ w).alloc (Nat.le_refl _) _⟩
  case round =>
    obtain ⟨k, hk, rfl, H⟩ := hrel
    by_cases hlt : k < n
    · obtain ⟨x, hx⟩ : ∃ x, l[k]? = some x := ⟨_, List.getElem?_eq_getElem (by rw [h.1]; exact hlt)⟩
      obtain ⟨b1, o1, rfl, hc1⟩ := h.2 (by omega)
      have q1 : wr.cell? ⟨b1, o1 + k, none⟩ = some (.string x) := (H.out.2.cell (p := ⟨b1, o1 + k, none⟩) (World.block_lt_of_cell? w _ (hc1 k x hx))).trans (hc1 k x hx)
      have i1 : (k : Int) < (n : Int) := by omega
      have i2 : ¬ n ≤ k := by omega
      have hxs : x.size ≤ 1048576 := hl x (List.mem_of_getElem? hx)
      have HS : Hid (lineL ((l.take (k + 1)).map bs) = lineL ((l.take k).map bs) ++ (if (l.take k).map bs = [] then [] else [32]) ++ wordL (bs x)) := by
        show _ = _
        rw [take_snoc l k x hx, lineL_snoc]
      have HL := hsum (k + 1)
      have cw := fun W hT => word_any x W hT (by omega)
      have hT1 := hT.below H.out.2
      have hz : (l.take k).map bs = [] ↔ k = 0 := by
        rw [List.map_eq_nil_iff, List.take_eq_nil_iff]
        have : l ≠ [] := fun e => by rw [e] at h; have := h.1; simp at this; omega
        simp [this]
      rw [HS.out, List.length_append, List.length_append] at HL
      obtain ⟨L, hL⟩ : ∃ L, L = lineL ((l.take k).map bs) := ⟨_, rfl⟩
      have hZs : (mk (wordL (bs x))).size = (wordL (bs x)).length := by rw [← bs_len, bs_mk]
      have HZ : Hid (bs (mk (wordL (bs x))) = wordL (bs x)) := bs_mk _
      rw [← hL] at HL H HS
      clear hL
      obtain ⟨Y, hY⟩ : ∃ Y, Y = wordL (bs x) := ⟨_, rfl⟩
      rw [← hY] at HL HS HZ cw hZs
      clear hY
      generalize hZ : mk Y = Z at *
      clear hZ
      have hLn : L.length + Y.length ≤ 100000001 := by omega
      clear hc1 hx h hl hsum
      by_cases h0 : k = 0
      · rw [if_pos (hz.2 h0), List.append_nil] at HS
        subst h0
        simp only [Nat.add_zero] at q1
        go_wp2_with first
          | (go_at_call 40; refine (cw _ hT1).mono ?_; rintro e w1 ⟨rfl, hB1⟩; have H1 : Hid (Bld w L w1 ∧ Below w.heap.size w w1) := ⟨H.out.1.below hB1, H.out.2.trans (hB1.mono H.out.2.size)⟩; clear hB1)
          | (go_at_call 25; refine (writeString_any w.heap.size w.heap.size L _ _ H1.out.1 (by rw [hZs]; omega) H1.out.2.size).mono ?_; rintro e w2 ⟨rfl, hb2, hB2⟩; have H2 : Hid (Bld w (L ++ Y) w2 ∧ Below w.heap.size w w2) := ⟨by rw [HZ.out] at hb2; exact hb2, H1.out.2.trans hB2⟩; clear hb2 hB2)
        go_roundw
        case rel => exact ⟨0 + 1, by omega, by simp, by rw [HS.out]; exact H2.out⟩
        case measure => simp [intOf]; omega
      · have ne : ¬ (l.take k).map bs = [] := fun e => h0 (hz.1 e)
        rw [if_neg ne] at HS
        have i0 : (0 : Int) < (k : Int) := by omega
        go_wp2_with first
          | (go_at_call 26; refine (writeByte_any w.heap.size w.heap.size L 32 _ H.out.1 (by omega) H.out.2.size).mono ?_; rintro e w0 ⟨rfl, hb0, hB0⟩; have H0 : Hid (Bld w (L ++ [32]) w0 ∧ Below w.heap.size w w0) := ⟨hb0, H.out.2.trans hB0⟩; have hT0 := hT.below H0.out.2; clear hb0 hB0)
          | (go_at_call 40; refine (cw _ hT0).mono ?_; rintro e w1 ⟨rfl, hB1⟩; have H1 : Hid (Bld w (L ++ [32]) w1 ∧ Below w.heap.size w w1) := ⟨H0.out.1.below hB1, H0.out.2.trans (hB1.mono H0.out.2.size)⟩; clear hB1)
          | (go_at_call 25; refine (writeString_any w.heap.size w.heap.size (L ++ [32]) _ _ H1.out.1 (by rw [hZs, List.length_append]; simp; omega) H1.out.2.size).mono ?_; rintro e w2 ⟨rfl, hb2, hB2⟩; have H2 : Hid (Bld w (L ++ [32] ++ Y) w2 ∧ Below w.heap.size w w2) := ⟨by rw [HZ.out] at hb2; exact hb2, H1.out.2.trans hB2⟩; clear hb2 hB2)
        go_roundw
        case rel => exact ⟨k + 1, by omega, by simp, by rw [HS.out]; exact H2.out⟩
        case measure => simp [intOf]; omega
    · obtain rfl : k = n := by omega
      have ilt : ¬ (k : Int) < (k : Int) := by omega
      have hf : l.take k = l := List.take_of_length_le (by rw [h.1]; exact Nat.le_refl _)
      rw [hf] at H
      clear hf
      have cs := Tryd.Builder_String_any w.heap.size w.heap.size (lineL (l.map bs)) wr H.out.1 H.out.2.size
      have HB := H.out.2
      rw [show (⟨(lineL (l.map bs)).toArray⟩ : ByteArray) = mk (lineL (l.map bs)) from rfl] at cs
      obtain ⟨Z, hZ⟩ : ∃ Z, Z = mk (lineL (l.map bs)) := ⟨_, rfl⟩
      have HZ : Hid (Z = mk (lineL (l.map bs))) := hZ
      rw [← hZ] at cs
      clear H hZ
      go_wp2_with (go_at_call 27; refine cs.mono ?_; rintro e w2 ⟨rfl, hB2⟩)
      go_ret
      exact ⟨by rw [← HZ.out]; rfl, HB.trans hB2⟩

end Go.Proofs.YtdchmmdndgbllaaDoor
