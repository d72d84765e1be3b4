/- The walk of the law QuoteTexts. -/
import Derived.Test.YtcmcoefcpncgbaaDoorQRefUnq
import Derived.Test.YtcmcoefcpncgbaaDoorQRefQuote
import Derived.Test.YtcmcoefcpncgbaaDoorQWakes
namespace Go.Proofs.YtcmcoefcpncgbaaDoor
open Go.RowKit

theorem qword_any (s : ByteArray) (w : World) (hT : Tabs w) (hs : s.size ≤ 8796093022208) :
    Calls Tryd.prog 12 #[.string s] w fun e w' => e = .returned (.string (if plainL (bs s) then s else mk (quoteL (bs s)))) ∧ Below w.heap.size w w' := by
  have c1 := qplain_any s w hT (by unfold maxLen; omega)
  have c2 := fun W hT => qquote_any s W hT hs
  cases hp : plainL (bs s) with
  | true =>
    rw [hp] at c1
    rw [if_pos rfl]
    go_enter Tryd.func12, Tryd.ntmps12
    go_wp2_with (go_at_call 10; refine c1.mono ?_; rintro e w1 ⟨rfl, hB1⟩)
    go_ret
    exact ⟨rfl, hB1⟩
  | false =>
    rw [hp] at c1
    rw [if_neg (by decide)]
    generalize mk (quoteL (bs s)) = Z at *
    go_enter Tryd.func12, Tryd.ntmps12
    go_wp2_with first
      | (go_at_call 10; refine c1.mono ?_; rintro e w1 ⟨rfl, hB1⟩; have hT1 := hT.below hB1)
      | (go_at_call 11; refine (c2 _ hT1).mono ?_; rintro e w2 ⟨rfl, hB2⟩)
    go_ret
    exact ⟨rfl, hB1.trans (hB2.mono hB1.size)⟩
set_option maxRecDepth 20000 in
set_option maxHeartbeats 4000000 in
theorem quoteTexts_walk (s : ByteArray) (w : World) (hs : s.size ≤ 1048576) (hT : Tabs w) :
    Calls Tryd.prog 3 #[.string s] w fun e w' => e = .returned (.bool true) ∧ Below w.heap.size w w' := by
  have hsm : s.size ≤ maxLen := by unfold maxLen; omega
  have c1 := fun W hT => unquote_any s W hT (by omega)
  have c2 := fun W => runquote_of s W (by omega) (fun t W ht => rquote_any t W ht)
  have c3 := fun W => rquote_any s W (by omega)
  have c4 := fun W => rplain_any s W hsm
  have c5 := fun W hT => qplain_any s W hT hsm
  have c6 := fun W hT => qquote_any s W hT (by omega)
  have c7 := fun W hT => qword_any s W hT (by omega)
  simp only [runqO_eq] at c2
  unfold unqV at c1
  generalize mk ((unq (bs s)).getD []) = U at *
  generalize (unq (bs s)).isSome = k at *
  generalize mk (quoteL (bs s)) = q at *
  have hU : (U.toList == U.toList) = true := by simp
  have hq : (q.toList == q.toList) = true := by simp
  have hss : (s.toList == s.toList) = true := by simp
  have hk : (k == k) = true := by simp
  have HC1 : Hid _ := c1
  have HC2 : Hid _ := c2
  have HC3 : Hid _ := c3
  have HC4 : Hid _ := c4
  have HC5 : Hid _ := c5
  have HC6 : Hid _ := c6
  have HC7 : Hid _ := c7
  clear c1 c2 c3 c4 c5 c6 c7
  have hw := wakes_any w hT
  cases hp : plainL (bs s) with
  | true =>
    rw [hp] at HC4 HC5 HC7
    simp only [if_true] at HC7
    go_enter Tryd.func3, Tryd.ntmps3
    go_wp2_with fail
    refine hw.mono ?_
    clear hw
    rintro e w1 ⟨rfl, hB1⟩
    have hT1 := hT.below hB1
    have H1 : Hid (Below w.heap.size w w1) := hB1
    clear hB1
    have hc2 := HC1.out w1 hT1
    go_wp2_with fail
    refine hc2.mono ?_
    clear hc2
    rintro e w2 ⟨rfl, hB2⟩
    have hT2 := hT1.below hB2
    have H2 : Hid (Below w.heap.size w w2) := H1.out.trans (hB2.mono H1.out.size)
    clear hB2 hT1
    have hc3 := HC2.out w2
    go_wp2_with fail
    refine hc3.mono ?_
    clear hc3
    rintro e w3 ⟨rfl, hB3⟩
    have hT3 := hT2.below hB3
    have H3 : Hid (Below w.heap.size w w3) := H2.out.trans (hB3.mono H2.out.size)
    clear hB3 hT2
    have hc4 := HC3.out w3
    go_wp2_with fail
    refine hc4.mono ?_
    clear hc4
    rintro e w4 ⟨rfl, hB4⟩
    have hT4 := hT3.below hB4
    have H4 : Hid (Below w.heap.size w w4) := H3.out.trans (hB4.mono H3.out.size)
    clear hB4 hT3
    have hc5 := HC4.out w4
    go_wp2_with fail
    refine hc5.mono ?_
    clear hc5
    rintro e w5 ⟨rfl, hB5⟩
    have hT5 := hT4.below hB5
    have H5 : Hid (Below w.heap.size w w5) := H4.out.trans (hB5.mono H4.out.size)
    clear hB5 hT4
    have hc6 := HC5.out w5 hT5
    go_wp2_with fail
    refine hc6.mono ?_
    clear hc6
    rintro e w6 ⟨rfl, hB6⟩
    have hT6 := hT5.below hB6
    have H6 : Hid (Below w.heap.size w w6) := H5.out.trans (hB6.mono H5.out.size)
    clear hB6 hT5
    have hc7 := HC4.out w6
    go_wp2_with fail
    refine hc7.mono ?_
    clear hc7
    rintro e w7 ⟨rfl, hB7⟩
    have hT7 := hT6.below hB7
    have H7 : Hid (Below w.heap.size w w7) := H6.out.trans (hB7.mono H6.out.size)
    clear hB7 hT6
    have hc8 := HC6.out w7 hT7
    go_wp2_with fail
    refine hc8.mono ?_
    clear hc8
    rintro e w8 ⟨rfl, hB8⟩
    have hT8 := hT7.below hB8
    have H8 : Hid (Below w.heap.size w w8) := H7.out.trans (hB8.mono H7.out.size)
    clear hB8 hT7
    have hc9 := HC3.out w8
    go_wp2_with fail
    refine hc9.mono ?_
    clear hc9
    rintro e w9 ⟨rfl, hB9⟩
    have hT9 := hT8.below hB9
    have H9 : Hid (Below w.heap.size w w9) := H8.out.trans (hB9.mono H8.out.size)
    clear hB9 hT8
    have hc10 := HC7.out w9 hT9
    go_wp2_with fail
    refine hc10.mono ?_
    clear hc10
    rintro e w10 ⟨rfl, hB10⟩
    have hT10 := hT9.below hB10
    have H10 : Hid (Below w.heap.size w w10) := H9.out.trans (hB10.mono H9.out.size)
    clear hB10 hT9
    have hw2 := wakes_any w10 hT10
    go_wp2_with fail
    refine hw2.mono ?_
    clear hw2
    rintro e w11 ⟨rfl, hB11⟩
    have H11 : Hid (Below w.heap.size w w11) := H10.out.trans (hB11.mono H10.out.size)
    clear hB11
    go_wp2
    go_ret
    exact ⟨rfl, H11.out⟩
  | false =>
    rw [hp] at HC4 HC5 HC7
    simp only [Bool.false_eq_true, if_false] at HC7
    go_enter Tryd.func3, Tryd.ntmps3
    go_wp2_with fail
    refine hw.mono ?_
    clear hw
    rintro e w1 ⟨rfl, hB1⟩
    have hT1 := hT.below hB1
    have H1 : Hid (Below w.heap.size w w1) := hB1
    clear hB1
    have hc2 := HC1.out w1 hT1
    go_wp2_with fail
    refine hc2.mono ?_
    clear hc2
    rintro e w2 ⟨rfl, hB2⟩
    have hT2 := hT1.below hB2
    have H2 : Hid (Below w.heap.size w w2) := H1.out.trans (hB2.mono H1.out.size)
    clear hB2 hT1
    have hc3 := HC2.out w2
    go_wp2_with fail
    refine hc3.mono ?_
    clear hc3
    rintro e w3 ⟨rfl, hB3⟩
    have hT3 := hT2.below hB3
    have H3 : Hid (Below w.heap.size w w3) := H2.out.trans (hB3.mono H2.out.size)
    clear hB3 hT2
    have hc4 := HC3.out w3
    go_wp2_with fail
    refine hc4.mono ?_
    clear hc4
    rintro e w4 ⟨rfl, hB4⟩
    have hT4 := hT3.below hB4
    have H4 : Hid (Below w.heap.size w w4) := H3.out.trans (hB4.mono H3.out.size)
    clear hB4 hT3
    have hc5 := HC4.out w4
    go_wp2_with fail
    refine hc5.mono ?_
    clear hc5
    rintro e w5 ⟨rfl, hB5⟩
    have hT5 := hT4.below hB5
    have H5 : Hid (Below w.heap.size w w5) := H4.out.trans (hB5.mono H4.out.size)
    clear hB5 hT4
    have hc6 := HC5.out w5 hT5
    go_wp2_with fail
    refine hc6.mono ?_
    clear hc6
    rintro e w6 ⟨rfl, hB6⟩
    have hT6 := hT5.below hB6
    have H6 : Hid (Below w.heap.size w w6) := H5.out.trans (hB6.mono H5.out.size)
    clear hB6 hT5
    have hc7 := HC4.out w6
    go_wp2_with fail
    refine hc7.mono ?_
    clear hc7
    rintro e w7 ⟨rfl, hB7⟩
    have hT7 := hT6.below hB7
    have H7 : Hid (Below w.heap.size w w7) := H6.out.trans (hB7.mono H6.out.size)
    clear hB7 hT6
    have hc8 := HC6.out w7 hT7
    go_wp2_with fail
    refine hc8.mono ?_
    clear hc8
    rintro e w8 ⟨rfl, hB8⟩
    have hT8 := hT7.below hB8
    have H8 : Hid (Below w.heap.size w w8) := H7.out.trans (hB8.mono H7.out.size)
    clear hB8 hT7
    have hc9 := HC3.out w8
    go_wp2_with fail
    refine hc9.mono ?_
    clear hc9
    rintro e w9 ⟨rfl, hB9⟩
    have hT9 := hT8.below hB9
    have H9 : Hid (Below w.heap.size w w9) := H8.out.trans (hB9.mono H8.out.size)
    clear hB9 hT8
    have hc10 := HC7.out w9 hT9
    go_wp2_with fail
    refine hc10.mono ?_
    clear hc10
    rintro e w10 ⟨rfl, hB10⟩
    have hT10 := hT9.below hB10
    have H10 : Hid (Below w.heap.size w w10) := H9.out.trans (hB10.mono H9.out.size)
    clear hB10 hT9
    have hw2 := wakes_any w10 hT10
    go_wp2_with fail
    refine hw2.mono ?_
    clear hw2
    rintro e w11 ⟨rfl, hB11⟩
    have H11 : Hid (Below w.heap.size w w11) := H10.out.trans (hB11.mono H10.out.size)
    clear hB11
    go_wp2
    go_ret
    exact ⟨rfl, H11.out⟩
end Go.Proofs.YtcmcoefcpncgbaaDoor
