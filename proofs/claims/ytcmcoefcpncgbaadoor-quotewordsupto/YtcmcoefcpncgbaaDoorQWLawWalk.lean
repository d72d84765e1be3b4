/- The walk of the law QuoteWords. -/
import Derived.Test.YtcmcoefcpncgbaaDoorQRefWords
import Derived.Test.YtcmcoefcpncgbaaDoorQStrs
import Derived.Test.YtcmcoefcpncgbaaDoorQWakes
namespace Go.Proofs.YtcmcoefcpncgbaaDoor
open Go.RowKit

theorem box_new2 (w : World) (x y : Int) : ∃ W, w.alloc (.cells #[.int .i64 x, .int .i64 y] 30) = W ∧ Below w.heap.size w W ∧ ∀ X, Below W.heap.size W X → X.cell? ⟨w.heap.size, 0, none⟩ = some (.int .i64 x) ∧ X.cell? ⟨w.heap.size, 1, none⟩ = some (.int .i64 y) := by
  refine ⟨_, rfl, (Below.refl _ w).alloc (Nat.le_refl _) _, fun X hX => ?_⟩
  have h := World.alloc_heap_new w (.cells #[.int .i64 x, .int .i64 y] 30)
  have hlt : w.heap.size < (w.alloc (.cells #[.int .i64 x, .int .i64 y] 30)).heap.size := by simp
  have hb := hX.block w.heap.size hlt
  rw [h] at hb
  constructor <;> simp [World.cell?, hb]
set_option maxRecDepth 20000 in
set_option maxHeartbeats 4000000 in
theorem quoteWords_walk (s : ByteArray) (w : World) (hs : s.size ≤ 1048576) (hT : Tabs w) :
    Calls Tryd.prog 4 #[.string s] w fun e w' => e = .returned (.bool true) ∧ Below w.heap.size w w' := by
  have c1 := fun W hT => words_any s W hT (by omega)
  have c2 := fun W => rwords_any s W (by omega)
  have HC1 : Hid _ := c1
  have HC2 : Hid _ := c2
  clear c1 c2
  have hw := wakes_any w hT
  cases hR : wordsL (bs s) 0 with
  | error p =>
    go_enter Tryd.func4, Tryd.ntmps4
    go_wp2_with fail
    refine hw.mono ?_
    clear hw
    rintro e w1 ⟨rfl, hB1⟩
    have hT1 := hT.below hB1
    have H1 : Hid (Below w.heap.size w w1) := hB1
    have hc2 := HC1.out w1 hT1
    clear hB1
    go_wp2_with fail
    refine hc2.mono ?_
    clear hc2
    rintro e w2 ⟨h2, hB2⟩
    have he2 : e = .returned (.tuple #[.slice none 0 0, .agg #[.int .i64 150, .int .i64 (p : Int)]]) := by
      rcases h2 with ⟨ws, v, hr, _⟩ | ⟨q, hr, he⟩
      · rw [hR] at hr; cases hr
      · rw [hR] at hr; cases hr; exact he
    subst he2
    have H2 : Hid (Below w.heap.size w w2) := H1.out.trans (hB2.mono H1.out.size)
    have hT2 := hT1.below hB2
    obtain ⟨wq, hwq, hBq, hcq⟩ := box_new2 w2 150 (p : Int)
    obtain ⟨bx, hbx⟩ : ∃ b, w2.heap.size = b := ⟨_, rfl⟩
    rw [hbx] at hcq
    have HBx : Hid (∀ X, Below wq.heap.size wq X → X.cell? ⟨bx, 0, none⟩ = some (.int .i64 150) ∧ X.cell? ⟨bx, 1, none⟩ = some (.int .i64 (p : Int))) := hcq
    have H2q : Hid (Below w.heap.size w wq) := H2.out.trans (hBq.mono H2.out.size)
    have hTq := hT2.below hBq
    have hc3 := HC2.out wq
    clear h2 hB2 hcq hBq
    go_wp2_with fail
    refine hc3.mono ?_
    clear hc3 hwq hbx
    rintro e w3 ⟨h3, hB3⟩
    have he3 : e = .returned (.tuple #[.slice none 0 0, .int .i64 (p : Int)]) := by
      rcases h3 with ⟨ws, v, hr, _⟩ | ⟨q, hr, he⟩
      · rw [hR] at hr; cases hr
      · rw [hR] at hr; cases hr; exact he
    subst he3
    have H3 : Hid (Below w.heap.size w w3) := H2q.out.trans (hB3.mono H2q.out.size)
    have hT3 := hTq.below hB3
    obtain ⟨q0, q1⟩ := HBx.out w3 hB3
    have i1 : (0 : Int) ≤ (p : Int) := by omega
    clear h3 hB3
    have hw3 := wakes_any w3 hT3
    go_wp2_with fail
    refine hw3.mono ?_
    clear hw3
    rintro e w4 ⟨rfl, hB4⟩
    have H4 : Hid (Below w.heap.size w w4) := H3.out.trans (hB4.mono H3.out.size)
    clear hB4
    go_wp2
    go_ret
    exact ⟨rfl, H4.out⟩
  | ok ws =>
    go_enter Tryd.func4, Tryd.ntmps4
    go_wp2_with fail
    refine hw.mono ?_
    clear hw
    rintro e w1 ⟨rfl, hB1⟩
    have hT1 := hT.below hB1
    have H1 : Hid (Below w.heap.size w w1) := hB1
    have hc2 := HC1.out w1 hT1
    clear hB1
    go_wp2_with fail
    refine hc2.mono ?_
    clear hc2
    rintro e w2 ⟨h2, hB2⟩
    have he2 : ∃ a c, e = .returned (.tuple #[.slice a ws.length c, .agg #[.int .i64 0, .int .i64 0]]) ∧ Strs w2 a ws.length (ws.map mk) := by
      rcases h2 with ⟨ws', v, hr, he, hrow⟩ | ⟨q, hr, _⟩
      · rw [hR] at hr
        cases hr
        obtain ⟨a, c, rfl, _, hst⟩ := wrow_strs hrow
        exact ⟨a, c, he, hst⟩
      · rw [hR] at hr; cases hr
    obtain ⟨la, lc, he2, hst2⟩ := he2
    subst he2
    have H2 : Hid (Below w.heap.size w w2) := H1.out.trans (hB2.mono H1.out.size)
    have hT2 := hT1.below hB2
    obtain ⟨_, rfl, hBq, hcq⟩ := box_new2 w2 0 0
    have HBx : Hid (∀ X, Below (w2.alloc (.cells #[.int .i64 0, .int .i64 0] 30)).heap.size (w2.alloc (.cells #[.int .i64 0, .int .i64 0] 30)) X → X.cell? ⟨w2.heap.size, 0, none⟩ = some (.int .i64 0) ∧ X.cell? ⟨w2.heap.size, 1, none⟩ = some (.int .i64 0)) := hcq
    have H2q : Hid (Below w.heap.size w (w2.alloc (.cells #[.int .i64 0, .int .i64 0] 30))) := H2.out.trans (hBq.mono H2.out.size)
    have hTq := hT2.below hBq
    have HSt : Hid (Strs (w2.alloc (.cells #[.int .i64 0, .int .i64 0] 30)) la ws.length (ws.map mk)) := hst2.kept hBq
    have hc3 := HC2.out (w2.alloc (.cells #[.int .i64 0, .int .i64 0] 30))
    clear h2 hB2 hcq hBq hst2
    generalize hNN : ws.length = N at *
    have HN : Hid (ws.length = N) := hNN
    clear hNN
    go_wp2_with fail
    refine hc3.mono ?_
    clear hc3
    rintro e w3 ⟨h3, hB3⟩
    have he3 : ∃ a c, e = .returned (.tuple #[.slice a N c, .int .i64 (-1)]) ∧ Strs w3 a N (ws.map mk) ∧ N ≤ s.size := by
      rcases h3 with ⟨ws', v, hr, he, hrow, hle⟩ | ⟨q, hr, _⟩
      · rw [hR] at hr
        cases hr
        obtain ⟨a, c, rfl, _, hst⟩ := wrow_strs hrow
        rw [HN.out] at he hst hle
        exact ⟨a, c, he, hst, hle⟩
      · rw [hR] at hr; cases hr
    obtain ⟨ra, rc, he3, hst3, hNs⟩ := he3
    subst he3
    have H3 : Hid (Below w.heap.size w w3) := H2q.out.trans (hB3.mono H2q.out.size)
    have hT3 := hTq.below hB3
    obtain ⟨q0, q1⟩ := HBx.out w3 hB3
    have hsm := same_yes w3 la ra N lc rc (ws.map mk) (HSt.out.kept hB3) hst3 (by omega)
    clear h3 hB3 hst3
    go_wp2_with fail
    refine hsm.mono ?_
    clear hsm
    rintro e w4 ⟨rfl, hB4⟩
    have H4 : Hid (Below w.heap.size w w4) := H3.out.trans (hB4.mono H3.out.size)
    have hw4 := wakes_any w4 (hT3.below hB4)
    clear hB4
    go_wp2_with fail
    refine hw4.mono ?_
    clear hw4
    rintro e w5 ⟨rfl, hB5⟩
    have H5 : Hid (Below w.heap.size w w5) := H4.out.trans (hB5.mono H4.out.size)
    clear hB5
    go_wp2
    go_ret
    exact ⟨rfl, H5.out⟩
end Go.Proofs.YtcmcoefcpncgbaaDoor
