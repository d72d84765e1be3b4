import Derived.Test.YtfkepoibgmljkaaB26
import Derived.Test.YtfkepoibgmljkaaB27
import Derived.Test.YtfkepoibgmljkaaB21
import Derived.Test.YtfkepoibgmljkaaB30
/- The walk of the document's Read. -/
namespace Go.Proofs.Ytfkepoibgmljkaa
open Go.RowKit Go.Shelf Go.Maps Go.Lib

attribute [local go_sem] Oper.semAt_some

/-- a Reader in a box -/
def BoxR (W : World) (g : Nat) (v : Value) : Prop := W.heap[g]? = some (.cells #[v, .int .i64 0] 57 (0, 0))
theorem BoxR.lt {W : World} {g : Nat} {v : Value} (h : BoxR W g v) : g < W.heap.size := (Array.getElem?_eq_some_iff.1 h).1
theorem BoxR.new (W : World) (v : Value) : BoxR (W.alloc (.cells #[v, .int .i64 0] 57)) W.heap.size v := World.alloc_heap_new W _
theorem BoxR.below {W W' : World} {B g : Nat} {v : Value} (h : BoxR W g v) (hB : Below B W W') (hg : g < B) : BoxR W' g v := (hB.block g hg).trans h
theorem BoxR.cell {W : World} {g : Nat} {v : Value} (h : BoxR W g v) : W.cell? ⟨g, 0, none⟩ = some v ∧ W.cell? ⟨g, 1, none⟩ = some (.int .i64 0) := by
  unfold BoxR at h
  simp [World.cell?, h]
theorem BoxR.frozen {W : World} {g : Nat} {v : Value} (h : BoxR W g v) : W.frozen? ⟨g, 0, none⟩ = false ∧ W.frozen? ⟨g, 1, none⟩ = false := by
  unfold BoxR at h
  simp [World.frozen?, h]
theorem BoxR.all {W : World} {g : Nat} {v : Value} (h : BoxR W g v) (v' : Value) : BoxR ((W.setCell ⟨g, 0, none⟩ v').setCell ⟨g, 1, none⟩ (.int .i64 0)) g v' := by
  have h' := h
  unfold BoxR at h'
  simp [BoxR, World.setCell, Array.getElem?_modify, h', Array.setIfInBounds]
/-- an answer in a box -/
def BoxN (W : World) (g x : Nat) : Prop := ∃ v t, W.heap[g]? = some (.cells #[.int .u64 (x : Int), v] t (0, 0))
theorem BoxN.lt {W : World} {g x : Nat} (h : BoxN W g x) : g < W.heap.size := by
  obtain ⟨_, _, h⟩ := h
  exact (Array.getElem?_eq_some_iff.1 h).1
theorem BoxN.below {W W' : World} {B g x : Nat} (h : BoxN W g x) (hB : Below B W W') (hg : g < B) : BoxN W' g x := by
  obtain ⟨v, t, h⟩ := h
  exact ⟨v, t, (hB.block g hg).trans h⟩
theorem BoxN.cell {W : World} {g x : Nat} (h : BoxN W g x) : W.cell? ⟨g, 0, none⟩ = some (.int .u64 (x : Int)) := by
  obtain ⟨v, t, h⟩ := h
  simp [World.cell?, h]
theorem BoxN.other {W : World} {g x j i : Nat} (h : BoxN W g x) (hk : g ≠ j) (u : Value) : BoxN (W.setCell ⟨j, i, none⟩ u) g x := by
  obtain ⟨v, t, h⟩ := h
  exact ⟨v, t, (Below.heap_setCell _ _ _ _ hk).trans h⟩
theorem BoxR.other {W : World} {g j i : Nat} {v : Value} (h : BoxR W g v) (hk : g ≠ j) (u : Value) : BoxR (W.setCell ⟨j, i, none⟩ u) g v := (Below.heap_setCell _ _ _ _ hk).trans h
theorem boxN_put {W : World} {g x : Nat} {u v : Value} {t : TypeId} (h : W.heap[g]? = some (.cells #[u, v] t (0, 0))) (v' : Value) : BoxN ((W.setCell ⟨g, 0, none⟩ (.int .u64 (x : Int))).setCell ⟨g, 1, none⟩ v') g x :=
  ⟨v', t, by simp [World.setCell, Array.getElem?_modify, h, Array.setIfInBounds]⟩
theorem bytes_via {wr w4 w5 : World} {q off n : Nat} {l : List UInt8} (hB4 : Below wr.heap.size wr w4) (hB5 : Below wr.heap.size wr w5) (hq : q < wr.heap.size) (h : Bytes w4 (some ⟨q, off, none⟩) n l) : Bytes w5 (some ⟨q, off, none⟩) n l := by
  refine ⟨h.1, fun h0 => ?_⟩
  obtain ⟨b, o, e, hc⟩ := h.2 h0
  cases e
  refine ⟨q, off, rfl, fun i hi => ?_⟩
  rw [hB5.cell (p := ⟨q, off + i, none⟩) hq, ← hB4.cell (p := ⟨q, off + i, none⟩) hq]
  exact hc i hi
theorem BoxT.new (W : World) : ((W.alloc (.cells #[.int .u64 0, .slice none 0 0] 59)).cell? ⟨W.heap.size, 0, none⟩ = some (.int .u64 0) ∧ (W.alloc (.cells #[.int .u64 0, .slice none 0 0] 59)).cell? ⟨W.heap.size, 1, none⟩ = some (.slice none 0 0)) ∧
    (W.alloc (.cells #[.int .u64 0, .slice none 0 0] 59)).frozen? ⟨W.heap.size, 0, none⟩ = false ∧ (W.alloc (.cells #[.int .u64 0, .slice none 0 0] 59)).frozen? ⟨W.heap.size, 1, none⟩ = false := by
  have h := World.alloc_heap_new W (.cells #[.int .u64 0, .slice none 0 0] 59)
  generalize W.alloc (.cells #[.int .u64 0, .slice none 0 0] 59) = W' at *
  simp [World.cell?, World.frozen?, h]
theorem do_word (b off n c : Nat) (l : List UInt8) (w : World) (hb : Bytes w (some ⟨b, off, none⟩) n l) (hc : n ≤ c) (h8 : 8 ≤ n) :
    Calls Try.prog 21 #[.agg #[.slice (some ⟨b, off, none⟩) n c, .int .i64 0], .agg #[.int .i64 2, .int .i64 0]] w fun e w' => ∃ off' c' q m d, e = .returned (.tuple #[.agg #[.slice (some ⟨b, off', none⟩) (n - 8) c', .int .i64 0], .agg #[.int .u64 (wv l : Int), .slice q m d]]) ∧ Bytes w' (some ⟨b, off', none⟩) (n - 8) (l.drop 8) ∧ n - 8 ≤ c' ∧ Below w.heap.size w w' := by
  refine (do_word_yes b off n c 0 l w hb hc h8).mono ?_
  rintro e w' ⟨off', n', c', q, m, d, rfl, h1, h2, _, _, hB⟩
  have hn : n' = n - 8 := by
    have e1 := h1.1
    have e2 := hb.1
    simp only [List.length_drop] at e1
    omega
  subst hn
  exact ⟨off', c', q, m, d, by rw [← wv_int], h1, h2, hB⟩
theorem read_good {b : List UInt8} (hf : FitB b) (hr : risF 0 (tellP b) = true) : (pairsR b = some (tellP b) ∧ runB (tellP b) = b) ∨ (pairsR b = none ∧ runB (tellP b) ≠ b) := by
  obtain ⟨_, _, _, h4, h5⟩ := fit_parts hf
  cases hp : pairsR b with
  | some l =>
    obtain ⟨hg, hb⟩ := pairs_good hp
    have : pairsR b = some (tellP b) := by
      have h := hp
      unfold pairsR at h
      rw [if_pos hf] at h
      split at h
      · unfold pairsR
        rw [if_pos hf, if_pos (by assumption)]
      · cases h
    rw [this] at hp
    cases hp
    exact .inl ⟨rfl, hb.symm⟩
  | none =>
    refine .inr ⟨rfl, fun e => ?_⟩
    have := pairs_runB (l := tellP b) ⟨h4, hr, h5⟩
    rw [e, hp] at this
    cases this
theorem read_bad {b : List UInt8} (hr : risF 0 (tellP b) ≠ true) : pairsR b = none := by
  unfold pairsR
  split
  · rw [if_neg (fun h => hr h.2)]
  · rfl
/-- what Read answers -/
def ReadE (b : List UInt8) (v : Value) (ok : Bool) (w' : World) : Prop := ∃ ad m c L, v = .slice ad m c ∧ PrQ w' ad m c L ∧ m ≤ 65536 ∧ ((ok = true ∧ pairsR b = some L) ∨ (ok = false ∧ pairsR b = none))
theorem ReadE.nothing {b : List UInt8} {w' : World} (h : pairsR b = none) : ReadE b (.slice none 0 0) false w' := ⟨none, 0, 0, [], rfl, ⟨⟨prs_nil _ _, fun _ => ⟨rfl, rfl⟩, Nat.le_refl _⟩, PairB.none _⟩, by omega, .inr ⟨rfl, h⟩⟩

def ReadA (b : List UInt8) (w : World) (e : Ending) (w' : World) : Prop := ∃ v ok, e = .returned (.tuple #[v, .bool ok]) ∧ ReadE b v ok w' ∧ Below w.heap.size w w'

set_option maxRecDepth 100000 in
set_option maxHeartbeats 4000000 in
theorem rread_any (w : World) (a : Option Addr) (n c : Nat) (b : List UInt8) (hb : Bytes w a n b) (hnil : a = none → n = 0) (hcap : n ≤ c) (hn : n ≤ 100000) :
    Calls Try.prog 9 #[.slice a n c] w (ReadA b w) := by
  have hmx : Try.prog.follows .mixedOrders = true := by kernel_rfl
  have hle := num_le b
  have hfit := num_fits b
  have hnb := num_back b
  obtain ⟨X, k, er, hnum⟩ : ∃ x k e, num b = (x, k, e) := ⟨_, _, _, rfl⟩
  have hrd := number_any a n c b w hb (by unfold maxLen; omega)
  rw [hnum] at hle hfit hrd
  simp only at hle hfit hrd
  have HB : Hid (Bytes w a n b ∧ b.length = n) := ⟨hb, hb.1⟩
  have Hnum : Hid (num b = (X, k, er)) := hnum
  have hkn : k ≤ n := by have := hb.1; omega
  clear hb hle
  by_cases he : er = 0
  · subst he
    obtain ⟨Xn, rfl, _, _, _, _, _⟩ := hnb X k hnum
    clear hnb hnum
    by_cases hX : Xn ≤ 65536
    · by_cases hL : n = k + 16 * Xn + 8
      · have HF : Hid (FitB b ∧ tellP b = readP (b.drop k) Xn) := by
          unfold FitB tellP
          rw [Hnum.out]
          refine ⟨⟨rfl, by show (Xn : Int) ≤ 65536; omega, ?_⟩, by simp⟩
          rw [HB.out.2]
          show n = k + 16 * Xn + 8
          omega
        obtain ⟨qa, qo, rfl, hqc⟩ := HB.out.1.2 (by omega)
        have HQ : Hid (qa < w.heap.size) := World.block_lt_of_cell? w _ (hqc 0 (by omega))
        clear hqc
        have HL : Hid (n = k + 16 * Xn + 8) := hL
        have i1 : ¬ (65536 : Int) < (Xn : Int) := by omega
        have i2 : ((n : Int) != (k : Int) + 16 * (Xn : Int) + 8) = false := by simp; omega
        have i3 : wrap64 ((k : Int) + 16 * (Xn : Int) + 8) = (k : Int) + 16 * (Xn : Int) + 8 := by unfold wrap64; omega
        have i4 : (k : Int) ≤ (n : Int) := by omega
        have i5 : (n : Int) ≤ (c : Int) := by omega
        have i6 : ¬ c = k := by omega
        clear hfit hL hnil
        go_enter Try.func9, Try.ntmps9
        go_upto_region 7 with (go_at_call 20; refine hrd.mono ?_; clear hrd; rintro e w1 ⟨rfl, hw1⟩; subst hw1)
        have H0 : Hid (∃ off nn cc, nn = n - (k + 16 * 0) ∧ nn ≤ cc ∧ BoxR (w1.alloc (.cells #[.slice (some ⟨qa, qo + k, none⟩) (n - k) (c - k), .int .i64 0] 57)) w1.heap.size (.slice (some ⟨qa, off, none⟩) nn cc) ∧ Bytes (w1.alloc (.cells #[.slice (some ⟨qa, qo + k, none⟩) (n - k) (c - k), .int .i64 0] 57)) (some ⟨qa, off, none⟩) nn (b.drop (k + 16 * 0)) ∧ (w1.alloc (.cells #[.slice (some ⟨qa, qo + k, none⟩) (n - k) (c - k), .int .i64 0] 57)).ownsRow (w1.heap.size + 1) 32 2 (.slice none 0 0) 0 (prCells (readP (b.drop k) 0)) ∧ Below w1.heap.size w1 (w1.alloc (.cells #[.slice (some ⟨qa, qo + k, none⟩) (n - k) (c - k), .int .i64 0] 57))) := by
          have hB := (Below.refl w1.heap.size w1).alloc (Nat.le_refl _) (.cells #[.slice (some ⟨qa, qo + k, none⟩) (n - k) (c - k), .int .i64 0] 57)
          exact ⟨qo + k, n - k, c - k, rfl, by omega, BoxR.new _ _, (HB.out.1.fwd k hkn).low hB, World.ownsRow_nil _ _ _ _, hB⟩
        clear i1 i2 i3 i4 i5 i6
        generalize w1.alloc (.cells #[.slice (some ⟨qa, qo + k, none⟩) (n - k) (c - k), .int .i64 0] 57) = w0 at *
        go_loopw [8, 9] (fun v i wr => ∃ j : Nat, j ≤ Xn ∧ i = .int .i64 (j : Int) ∧ Hid (∃ off nn cc, nn = n - (k + 16 * j) ∧ nn ≤ cc ∧ BoxR wr w1.heap.size (.slice (some ⟨qa, off, none⟩) nn cc) ∧ Bytes wr (some ⟨qa, off, none⟩) nn (b.drop (k + 16 * j)) ∧ wr.ownsRow (w1.heap.size + 1) 32 2 v j (prCells (readP (b.drop k) j)) ∧ Below w1.heap.size w1 wr)) (fun _ i _ => Xn - (intOf i).toNat)
        case atStart => exact ⟨0, Nat.zero_le _, rfl, H0⟩
        case round =>
          clear H0
          obtain ⟨j, hj, rfl, H⟩ := hrel
          by_cases hlt : j < Xn
          · have i7 : (j : Int) < (Xn : Int) := by omega
            obtain ⟨off, nn, cc, hnn, hcc, hbx, hby, hrow, hBl⟩ := H.out
            have h16 : 16 ≤ nn := by have := HL.out; omega
            have hd1 := do_word qa off nn cc _ wr hby hcc (by omega)
            obtain ⟨c0, c1⟩ := hbx.cell
            have HJ : Hid (readP (b.drop k) (j + 1) = readP (b.drop k) j ++ [(wv (b.drop (k + 16 * j)), wv ((b.drop (k + 16 * j)).drop 8))] ∧ ((b.drop (k + 16 * j)).drop 8).drop 8 = b.drop (k + 16 * (j + 1)) ∧ nn - 8 - 8 = n - (k + 16 * (j + 1)) ∧ 8 ≤ nn - 8) := by
              refine ⟨?_, ?_, by omega, by omega⟩
              · have h1 := readP_get (j + 1) (b.drop k) j (by omega)
                have h2 := readP_take (j + 1) j (b.drop k) (by omega)
                have h3 : (readP (b.drop k) (j + 1)).take (j + 1) = readP (b.drop k) (j + 1) := List.take_of_length_le (by rw [readP_len]; omega)
                rw [← h3, List.take_add_one, h1, h2, List.drop_drop, List.drop_drop, List.drop_drop]
                rfl
              · rw [List.drop_drop, List.drop_drop]
                congr 1 <;> omega
            have HV : Hid (BoxR wr w1.heap.size (.slice (some ⟨qa, off, none⟩) nn cc) ∧ wr.ownsRow (w1.heap.size + 1) 32 2 u8 j (prCells (readP (b.drop k) j)) ∧ Below w1.heap.size w1 wr) := ⟨hbx, hrow, hBl⟩
            have HRs : Hid (w1.heap.size < wr.heap.size) := hbx.lt
            clear hbx hby hrow hBl hnn H
            generalize b.drop (k + 16 * j) = D at *
            go_upto_region 10 with (go_at_call 21; refine hd1.mono ?_; clear hd1; rintro e w2 ⟨off2, cc2, q2, m2, d2, rfl, hb2, hc2, hB2⟩)
            have H3 : Hid (∃ w3, w3 = (w2.alloc (.cells #[.slice (some ⟨qa, off2, none⟩) (nn - 8) cc2, .int .i64 0] 57)).alloc (.cells #[.int .u64 (wv D : Int), .slice q2 m2 d2] 59) ∧ BoxR w3 w2.heap.size (.slice (some ⟨qa, off2, none⟩) (nn - 8) cc2) ∧ BoxN w3 (w2.heap.size + 1) (wv D) ∧ Below wr.heap.size wr w3 ∧ Bytes w3 (some ⟨qa, off2, none⟩) (nn - 8) (D.drop 8)) := by
              have hsz := hB2.size
              have hB3 : Below w2.heap.size w2 ((w2.alloc (.cells #[.slice (some ⟨qa, off2, none⟩) (nn - 8) cc2, .int .i64 0] 57)).alloc (.cells #[.int .u64 (wv D : Int), .slice q2 m2 d2] 59)) := ((Below.refl _ w2).alloc (Nat.le_refl _) _).alloc (by simp) _
              refine ⟨_, rfl, ?_, ?_, hB2.trans (hB3.mono hsz), hb2.low hB3⟩
              · exact (BoxR.new w2 _).below (B := w2.heap.size + 1) ((Below.refl _ _).alloc (by simp) _) (by omega)
              · have h := World.alloc_heap_new (w2.alloc (.cells #[.slice (some ⟨qa, off2, none⟩) (nn - 8) cc2, .int .i64 0] 57)) (.cells #[.int .u64 (wv D : Int), .slice q2 m2 d2] 59)
                rw [World.size_alloc] at h
                exact ⟨_, _, h⟩
            obtain ⟨w3, hw3, hx3, hn3, hB3, hb3⟩ := H3.out
            have hR3 := HRs.out
            have hs2 := hB2.size
            have H4 : Hid (BoxR w3 w1.heap.size (.slice (some ⟨qa, off, none⟩) nn cc) ∧ wr.heap.size ≤ w2.heap.size ∧ BoxN w3 (w2.heap.size + 1) (wv D) ∧ Below wr.heap.size wr w3 ∧ w2.heap.size + 2 = w3.heap.size) := ⟨HV.out.1.below hB3 hR3, hs2, hn3, hB3, by rw [hw3]; simp⟩
            have hd2 := do_word qa off2 (nn - 8) cc2 _ w3 hb3 hc2 HJ.out.2.2.2
            obtain ⟨c2, c3⟩ := hx3.cell
            have HX3 : Hid (BoxR w3 w2.heap.size (.slice (some ⟨qa, off2, none⟩) (nn - 8) cc2)) := hx3
            clear H3 hB3 hb3 hx3 hn3 hb2 hB2 c0 c1 hc2 hR3 hs2
            rw [← hw3]
            clear hw3
            generalize w2.heap.size = g2 at *
            go_upto_region 11 with (go_at_call 21; refine hd2.mono ?_; clear hd2; rintro e w4 ⟨off4, cc4, q4, m4, d4, rfl, hb4, hc4, hB4⟩; have H5 : Hid (Bytes w4 (some ⟨qa, off4, none⟩) (nn - 8 - 8) ((D.drop 8).drop 8) ∧ nn - 8 - 8 ≤ cc4 ∧ Below w3.heap.size w3 w4 ∧ BoxR w4 g2 (.slice (some ⟨qa, off2, none⟩) (nn - 8) cc2)) := ⟨hb4, hc4, hB4, HX3.out.below hB4 HX3.out.lt⟩; clear hb4 hc4 hB4 c2 c3; have hx5 := H5.out.2.2.2.below (Below.refl w4.heap.size w4 |>.alloc (Nat.le_refl _) (.cells #[.int .u64 0, .slice none 0 0] 59)) H5.out.2.2.2.lt; obtain ⟨c4, c5⟩ := hx5.cell; obtain ⟨f4, f5⟩ := hx5.frozen; clear hx5; have hg4 := H5.out.2.2.2.lt; have e1 : ¬ g2 = w4.heap.size := (by omega); have e2 : ¬ w4.heap.size = g2 := (by omega); obtain ⟨⟨k4, k5⟩, j4, j5⟩ := BoxT.new w4; clear hg4)
            have H6 : Hid (∃ w5, w5 = (((((w4.alloc (.cells #[.int .u64 0, .slice none 0 0] 59)).setCell ⟨g2, 0, none⟩ (.slice (some ⟨qa, off4, none⟩) (nn - 8 - 8) cc4)).setCell ⟨g2, 1, none⟩ (.int .i64 0)).setCell ⟨w4.heap.size, 0, none⟩ (.int .u64 (wv (D.drop 8) : Int))).setCell ⟨w4.heap.size, 1, none⟩ (.slice q4 m4 d4)) ∧
                BoxR w5 g2 (.slice (some ⟨qa, off4, none⟩) (nn - 8 - 8) cc4) ∧ BoxN w5 w4.heap.size (wv (D.drop 8)) ∧ BoxN w5 (g2 + 1) (wv D) ∧ Below wr.heap.size wr w5 ∧ Bytes w5 (some ⟨qa, off4, none⟩) (nn - 8 - 8) ((D.drop 8).drop 8)) := by
              have hs4 := H5.out.2.2.1.size
              have hg3 := H4.out.2.2.2.2
              have hgr := H4.out.2.1
              have hb := H5.out.2.2.2.below ((Below.refl w4.heap.size w4).alloc (Nat.le_refl _) (.cells #[.int .u64 0, .slice none 0 0] 59)) H5.out.2.2.2.lt
              have hn3 := (H4.out.2.2.1.below H5.out.2.2.1 (by omega)).below ((Below.refl w4.heap.size w4).alloc (Nat.le_refl _) (.cells #[.int .u64 0, .slice none 0 0] 59)) (by omega)
              have hB4 : Below wr.heap.size wr w4 := H4.out.2.2.2.1.trans (H5.out.2.2.1.mono (by omega))
              have hB5 := ((((hB4.alloc (by omega) (.cells #[.int .u64 0, .slice none 0 0] 59)).setCell (p := ⟨g2, 0, none⟩) (by exact hgr) (.slice (some ⟨qa, off4, none⟩) (nn - 8 - 8) cc4)).setCell (p := ⟨g2, 1, none⟩) (by exact hgr) (.int .i64 0)).setCell (p := ⟨w4.heap.size, 0, none⟩) (by show wr.heap.size ≤ w4.heap.size; omega) (.int .u64 (wv (D.drop 8) : Int))).setCell (p := ⟨w4.heap.size, 1, none⟩) (by show wr.heap.size ≤ w4.heap.size; omega) (.slice q4 m4 d4)
              refine ⟨_, rfl, ((hb.all _).other e1 _).other e1 _, ?_, (((hn3.other (by omega) _).other (by omega) _).other (by omega) _).other (by omega) _, hB5, ?_⟩
              · exact boxN_put ((Below.heap_setCell _ _ _ _ e2).trans ((Below.heap_setCell _ _ _ _ e2).trans (World.alloc_heap_new w4 (.cells #[.int .u64 0, .slice none 0 0] 59)))) _
              · exact bytes_via hB4 hB5 (by have := HQ.out; have := HRs.out; omega) H5.out.1
            obtain ⟨w5, hw5, hx5, hn5, hm5, hB5, hb5⟩ := H6.out
            have hR5 : BoxR w5 w1.heap.size (.slice (some ⟨qa, off, none⟩) nn cc) := HV.out.1.below hB5 HRs.out
            have H7 : Hid (BoxR w5 w1.heap.size (.slice (some ⟨qa, off, none⟩) nn cc) ∧ BoxN w5 w4.heap.size (wv (D.drop 8)) ∧ BoxN w5 (g2 + 1) (wv D) ∧ Below wr.heap.size wr w5 ∧ Bytes w5 (some ⟨qa, off4, none⟩) (nn - 8 - 8) ((D.drop 8).drop 8) ∧ nn - 8 - 8 ≤ cc4 ∧ wr.heap.size ≤ g2 ∧ g2 < w4.heap.size) := ⟨hR5, hn5, hm5, hB5, hb5, H5.out.2.1, H4.out.2.1, H5.out.2.2.2.lt⟩
            rw [← hw5]
            obtain ⟨c6, c7⟩ := hx5.cell
            obtain ⟨c8, c9⟩ := hR5.cell
            obtain ⟨f8, f9⟩ := hR5.frozen
            clear hw5 hn5 hm5 hB5 hb5 H6 H5 H4 HX3 hx5 hR5 c4 c5 f4 f5 k4 k5 j4 j5 e1 e2
            generalize w4.heap.size = g4 at *
            go_upto_region 12 with fail
            have H8 : Hid (∃ w6, w6 = (w5.setCell ⟨w1.heap.size, 0, none⟩ (.slice (some ⟨qa, off4, none⟩) (nn - 8 - 8) cc4)).setCell ⟨w1.heap.size, 1, none⟩ (.int .i64 0) ∧ BoxR w6 w1.heap.size (.slice (some ⟨qa, off4, none⟩) (nn - 8 - 8) cc4) ∧ BoxN w6 g4 (wv (D.drop 8)) ∧ BoxN w6 (g2 + 1) (wv D) ∧ Bytes w6 (some ⟨qa, off4, none⟩) (nn - 8 - 8) ((D.drop 8).drop 8) ∧ nn - 8 - 8 ≤ cc4 ∧ w6.ownsRow (w1.heap.size + 1) 32 2 u8 j (prCells (readP (b.drop k) j)) ∧ Below w1.heap.size w1 w6 ∧ w1.heap.size + 1 ≤ w6.heap.size) := by
              obtain ⟨a1, a2, a3, a4, a5, a6, a7, a8⟩ := H7.out
              have hr := HRs.out
              have hq := HQ.out
              have hB1 : Below w1.heap.size w1 w5 := HV.out.2.2.trans (a4.mono (by omega))
              have hB6 := (hB1.setCell (p := ⟨w1.heap.size, 0, none⟩) (Nat.le_refl _) (.slice (some ⟨qa, off4, none⟩) (nn - 8 - 8) cc4)).setCell (p := ⟨w1.heap.size, 1, none⟩) (Nat.le_refl _) (.int .i64 0)
              refine ⟨_, rfl, a1.all _, (a2.other (by omega) _).other (by omega) _, (a3.other (by omega) _).other (by omega) _, bytes_via hB1 hB6 hq a5, a6, ?_, hB6, ?_⟩
              · refine row_movedV HV.out.2.1 fun r hr' => ?_
                have hrb := row_blockV HV.out.2.1 r hr'
                have hne : r ≠ w1.heap.size := by have := hrb.1; omega
                exact (Below.heap_setCell _ _ _ _ hne).trans ((Below.heap_setCell _ _ _ _ hne).trans (a4.block r hrb.2.1))
              · have := a4.size
                simp
                omega
            obtain ⟨w6, hw6, b1, b2, b3, b4, b5, b6, b7, b8⟩ := H8.out
            rw [← hw6]
            have H9 : Hid (BoxR w6 w1.heap.size (.slice (some ⟨qa, off4, none⟩) (nn - 8 - 8) cc4) ∧ Bytes w6 (some ⟨qa, off4, none⟩) (nn - 8 - 8) ((D.drop 8).drop 8) ∧ nn - 8 - 8 ≤ cc4 ∧ w6.ownsRow (w1.heap.size + 1) 32 2 u8 j (prCells (readP (b.drop k) j)) ∧ Below w1.heap.size w1 w6 ∧ w1.heap.size + 1 ≤ w6.heap.size) := ⟨b1, b4, b5, b6, b7, b8⟩
            have d1 := b2.cell
            have d2 := b3.cell
            have hsz6 := b8
            clear hw6 b1 b2 b3 b4 b5 b6 b7 b8 H8 H7 HV HRs c6 c7 c8 c9 f8 f9
            go_wp2_with (at_builtin; refine wpList_appV rfl _ _ rfl (w1.heap.size + 1) j 1 1 u8 (readP (b.drop k) j) [(wv D, wv (D.drop 8))] (some ⟨w6.heap.size, 0, none⟩) rfl rfl (row_keptV H9.out.2.2.2.1 ((Below.refl _ w6).alloc (Nat.le_refl _) _)) (prs_one w6 (wv D) (wv (D.drop 8))) (fun e => by cases e) (by omega) (by simp; omega) ?_; intro a7 c7 w7 hc7 hown7 hB7)
            have hBw : Below (w1.heap.size + 1) w6 w7 := ((Below.refl (w1.heap.size + 1) w6).alloc hsz6 _).trans hB7
            have HZ : Hid (∃ off nn cc, nn = n - (k + 16 * (j + 1)) ∧ nn ≤ cc ∧ BoxR w7 w1.heap.size (.slice (some ⟨qa, off, none⟩) nn cc) ∧ Bytes w7 (some ⟨qa, off, none⟩) nn (b.drop (k + 16 * (j + 1))) ∧ w7.ownsRow (w1.heap.size + 1) 32 2 (.slice a7 (j + 1) c7) (j + 1) (prCells (readP (b.drop k) (j + 1))) ∧ Below w1.heap.size w1 w7) := by
              have hq := HQ.out
              refine ⟨off4, nn - 8 - 8, cc4, HJ.out.2.2.1, H9.out.2.2.1, H9.out.1.below hBw (by omega), ?_, by rw [HJ.out.1]; exact hown7, H9.out.2.2.2.2.1.trans (hBw.mono (by omega))⟩
              rw [← HJ.out.2.1]
              exact bytes_via H9.out.2.2.2.2.1 (H9.out.2.2.2.2.1.trans (hBw.mono (by omega))) hq H9.out.2.1
            clear hBw hown7 hB7 H9 d1 d2 hc7 HJ
            go_roundw
            case rel => exact ⟨j + 1, by omega, by go_num, HZ⟩
            case measure => simp [intOf]; omega
          · obtain rfl : j = Xn := by omega
            obtain ⟨_, _, _, _, _, _, hby1, hrow, hBl⟩ := H.out
            obtain ⟨ad, cp, rfl, hpv, hlen⟩ := own_prv hrow
            have i8 : ¬ (j : Int) < (j : Int) := by omega
            have hg8 : 8 ≤ n := by have := HL.out; omega
            have HT0 : Hid (FitB b ∧ tellP b = readP (b.drop k) j) := HF.out
            obtain ⟨T, hT⟩ : ∃ T, T = readP (b.drop k) j := ⟨_, rfl⟩
            rw [← hT] at hpv hlen
            have HT : Hid (readP (b.drop k) j = T) := hT.symm
            have HP : Hid (PrQ wr ad j cp T ∧ T.length = j ∧ Below w1.heap.size w1 wr) := ⟨⟨hpv, PairB.own hrow⟩, hlen, hBl⟩
            clear hby1 hrow hBl hpv hlen HF H hT
            go_wp2
            go_loopw [13] (fun i wx => ∃ q p : Nat, q ≤ j ∧ i = .int .i64 (q : Int) ∧ (q = 0 → p = 0) ∧ Hid (risF 0 T = risF p (T.drop q) ∧ (∀ y, 0 < q → T[q - 1]? = some y → y.1 = p) ∧ Below w1.heap.size w1 wx ∧ PrQ wx ad j cp T)) (fun i _ => j - (intOf i).toNat)
            case atStart => exact ⟨0, 0, Nat.zero_le _, rfl, fun _ => rfl, rfl, fun _ h => by omega, HP.out.2.2, HP.out.1⟩
            case round =>
              clear HP
              obtain ⟨q, p, hq, rfl, hq0, H⟩ := hrel
              by_cases hlt : q < j
              · obtain ⟨⟨x, y⟩, hx⟩ : ∃ x, T[q]? = some x := ⟨_, List.getElem?_eq_getElem (by have := H.out.2.2.2.prs.1; omega)⟩
                obtain ⟨b1, o1, rfl, hc1⟩ := H.out.2.2.2.prs.2 (by omega)
                have t1 := (hc1 q _ hx).1
                have i2 : (q : Int) < (j : Int) := by omega
                have i3 : ¬ j ≤ q := by omega
                have HR : Hid (risF 0 T = (decide (p < x) && risF x (T.drop (q + 1)))) := by
                  have e := H.out.1
                  rw [drop_getV hx, risF] at e
                  exact e
                have HN1 : Hid (∀ z, 0 < q + 1 → T[q + 1 - 1]? = some z → z.1 = x) := fun z _ hz => by
                  rw [Nat.add_sub_cancel, hx] at hz
                  cases hz
                  rfl
                have HBd : Hid (Below w1.heap.size w1 wr.drew ∧ PrQ wr.drew (some ⟨b1, o1, none⟩) j cp T) := ⟨⟨H.out.2.2.1.os, H.out.2.2.1.tape, H.out.2.2.1.output, H.out.2.2.1.size, H.out.2.2.1.block⟩, H.out.2.2.2.kept (by exact ⟨rfl, rfl, rfl, Nat.le_refl _, fun _ _ => rfl⟩)⟩
                simp only at t1
                by_cases hx0 : x = 0
                · subst hx0
                  have HBad : Hid (pairsR b = none) := read_bad (by rw [HT0.out.2, HT.out, HR.out]; simp)
                  clear hc1 hx H HR HN1
                  go_upto_region 16 with fail
                  refine wp_region_G (S := SB 1000 (fun _ => True) (fun Y => Y.cell? ⟨b1, o1 + q * 2, none⟩ = some (.int .u64 ((0 : Nat) : Int)))) hmx ?_
                  have hSB : SB 1000 (fun _ => True) (fun Y => Y.cell? ⟨b1, o1 + q * 2, none⟩ = some (.int .u64 ((0 : Nat) : Int))) (Array.replicate 24 false) wr.drew := SB.on trivial t1
                  refine wpAnyG_takeP (i := 0) (v := ?_) rfl (by kernel_rfl) (by kernel_rfl) (by kernel_rfl) (fun _ _ _ h => h) rfl (Or.inl ⟨by rfl, ?_⟩) (by assumption) ?_
                  rotate_left
                  · intro Y _; go_simp; try with_reducible rfl
                  intro hSB0
                  try simp only [Act.put, List.getElem_toArray, List.getElem_cons_zero, List.setIfInBounds_toArray, List.set_cons_zero, List.set_cons_succ]
                  refine wpAnyG_takeP (i := 1) (v := ?_) rfl (by kernel_rfl) (by kernel_rfl) (by kernel_rfl) (fun _ _ _ h => h) rfl (Or.inl ⟨by rfl, ?_⟩) (by assumption) ?_
                  rotate_left
                  · intro Y _; go_simp; try with_reducible rfl
                  intro hSB1
                  try simp only [Act.put, List.getElem_toArray, List.getElem_cons_zero, List.getElem_cons_succ, List.setIfInBounds_toArray, List.set_cons_zero, List.set_cons_succ]
                  refine wpAnyG_takeP (i := 2) (v := ?_) rfl (by kernel_rfl) (by kernel_rfl) (by kernel_rfl) (fun _ _ _ h => h) rfl (Or.inl ⟨by rfl, ?_⟩) (by assumption) ?_
                  rotate_left
                  · intro Y _; go_simp; try with_reducible rfl
                  intro hSB2
                  try simp only [Act.put, List.getElem_toArray, List.getElem_cons_zero, List.getElem_cons_succ, List.setIfInBounds_toArray, List.set_cons_zero, List.set_cons_succ]
                  refine wpAnyG_takeP (i := 3) (v := ?_) rfl (by kernel_rfl) (by kernel_rfl) (by kernel_rfl) (fun _ _ _ h => h) rfl (Or.inl ⟨by rfl, ?_⟩) (by assumption) ?_
                  rotate_left
                  · intro Y _; go_simp; try with_reducible rfl
                  intro hSB3
                  try simp only [Act.put, List.getElem_toArray, List.getElem_cons_zero, List.getElem_cons_succ, List.setIfInBounds_toArray, List.set_cons_zero, List.set_cons_succ]
                  refine wpAnyG_takeP (i := 4) (v := ?_) rfl (by kernel_rfl) (by kernel_rfl) (by kernel_rfl) (fun _ _ _ h => h) rfl (Or.inl ⟨by rfl, ?_⟩) (by assumption) ?_
                  rotate_left
                  · intro Y hY; have y1 := hY; go_simp; try with_reducible rfl
                  intro hSB4
                  try simp only [Act.put, List.getElem_toArray, List.getElem_cons_zero, List.getElem_cons_succ, List.setIfInBounds_toArray, List.set_cons_zero, List.set_cons_succ]
                  refine wpAnyG_takeP (i := 5) (v := ?_) rfl (by kernel_rfl) (by kernel_rfl) (by kernel_rfl) (fun _ _ _ h => h) rfl (Or.inl ⟨by rfl, ?_⟩) (by assumption) ?_
                  rotate_left
                  · intro Y _; go_simp; try with_reducible rfl
                  intro hSB5
                  try simp only [Act.put, List.getElem_toArray, List.getElem_cons_zero, List.getElem_cons_succ, List.setIfInBounds_toArray, List.set_cons_zero, List.set_cons_succ]
                  refine wpAnyG_takeP (i := 6) (v := ?_) rfl (by kernel_rfl) (by kernel_rfl) (by kernel_rfl) (fun _ _ _ h => h) rfl (Or.inl ⟨by rfl, ?_⟩) (by assumption) ?_
                  rotate_left
                  · intro Y _; go_simp; try with_reducible rfl
                  intro hSB6
                  try simp only [Act.put, List.getElem_toArray, List.getElem_cons_zero, List.getElem_cons_succ, List.setIfInBounds_toArray, List.set_cons_zero, List.set_cons_succ]
                  refine wpAnyG_takeP (i := 7) (v := undef) rfl (by kernel_rfl) (by kernel_rfl) (by kernel_rfl) (fun _ _ _ h => h) rfl (Or.inr ⟨by rfl, rfl⟩) (by assumption) ?_
                  intro hSB7
                  try simp only [Act.put, List.getElem_toArray, List.getElem_cons_zero, List.getElem_cons_succ, List.setIfInBounds_toArray, List.set_cons_zero, List.set_cons_succ]
                  refine wpAnyG_takeP (i := 8) (v := undef) rfl (by kernel_rfl) (by kernel_rfl) (by kernel_rfl) (fun _ _ _ h => h) rfl (Or.inr ⟨by rfl, rfl⟩) (by assumption) ?_
                  intro hSB8
                  try simp only [Act.put, List.getElem_toArray, List.getElem_cons_zero, List.getElem_cons_succ, List.setIfInBounds_toArray, List.set_cons_zero, List.set_cons_succ]
                  refine wpAnyG_takeP (i := 9) (v := undef) rfl (by kernel_rfl) (by kernel_rfl) (by kernel_rfl) (fun _ _ _ h => h) rfl (Or.inr ⟨by rfl, rfl⟩) (by assumption) ?_
                  intro hSB9
                  try simp only [Act.put, List.getElem_toArray, List.getElem_cons_zero, List.getElem_cons_succ, List.setIfInBounds_toArray, List.set_cons_zero, List.set_cons_succ]
                  refine wpAnyG_takeP (i := 10) (v := undef) rfl (by kernel_rfl) (by kernel_rfl) (by kernel_rfl) (fun _ _ _ h => h) rfl (Or.inr ⟨by rfl, rfl⟩) (by assumption) ?_
                  intro hSB10
                  try simp only [Act.put, List.getElem_toArray, List.getElem_cons_zero, List.getElem_cons_succ, List.setIfInBounds_toArray, List.set_cons_zero, List.set_cons_succ]
                  refine wpAnyG_takeP (i := 11) (v := undef) rfl (by kernel_rfl) (by kernel_rfl) (by kernel_rfl) (fun _ _ _ h => h) rfl (Or.inr ⟨by rfl, rfl⟩) (by assumption) ?_
                  intro hSB11
                  try simp only [Act.put, List.getElem_toArray, List.getElem_cons_zero, List.getElem_cons_succ, List.setIfInBounds_toArray, List.set_cons_zero, List.set_cons_succ]
                  refine wpAnyG_takeP (i := 12) (v := undef) rfl (by kernel_rfl) (by kernel_rfl) (by kernel_rfl) (fun _ _ _ h => h) rfl (Or.inr ⟨by rfl, rfl⟩) (by assumption) ?_
                  intro hSB12
                  try simp only [Act.put, List.getElem_toArray, List.getElem_cons_zero, List.getElem_cons_succ, List.setIfInBounds_toArray, List.set_cons_zero, List.set_cons_succ]
                  refine wpAnyG_takeP (i := 13) (v := undef) rfl (by kernel_rfl) (by kernel_rfl) (by kernel_rfl) (fun _ _ _ h => h) rfl (Or.inr ⟨by rfl, rfl⟩) (by assumption) ?_
                  intro hSB13
                  try simp only [Act.put, List.getElem_toArray, List.getElem_cons_zero, List.getElem_cons_succ, List.setIfInBounds_toArray, List.set_cons_zero, List.set_cons_succ]
                  refine wpAnyG_takeP (i := 14) (v := undef) rfl (by kernel_rfl) (by kernel_rfl) (by kernel_rfl) (fun _ _ _ h => h) rfl (Or.inr ⟨by rfl, rfl⟩) (by assumption) ?_
                  intro hSB14
                  try simp only [Act.put, List.getElem_toArray, List.getElem_cons_zero, List.getElem_cons_succ, List.setIfInBounds_toArray, List.set_cons_zero, List.set_cons_succ]
                  refine wpAnyG_takeP (i := 15) (v := undef) rfl (by kernel_rfl) (by kernel_rfl) (by kernel_rfl) (fun _ _ _ h => h) rfl (Or.inr ⟨by rfl, rfl⟩) (by assumption) ?_
                  intro hSB15
                  try simp only [Act.put, List.getElem_toArray, List.getElem_cons_zero, List.getElem_cons_succ, List.setIfInBounds_toArray, List.set_cons_zero, List.set_cons_succ]
                  refine wpAnyG_takeP (i := 16) (v := undef) rfl (by kernel_rfl) (by kernel_rfl) (by kernel_rfl) (fun _ _ _ h => h) rfl (Or.inr ⟨by rfl, rfl⟩) (by assumption) ?_
                  intro hSB16
                  try simp only [Act.put, List.getElem_toArray, List.getElem_cons_zero, List.getElem_cons_succ, List.setIfInBounds_toArray, List.set_cons_zero, List.set_cons_succ]
                  refine wpAnyG_takeP (i := 17) (v := undef) rfl (by kernel_rfl) (by kernel_rfl) (by kernel_rfl) (fun _ _ _ h => h) rfl (Or.inr ⟨by rfl, rfl⟩) (by assumption) ?_
                  intro hSB17
                  try simp only [Act.put, List.getElem_toArray, List.getElem_cons_zero, List.getElem_cons_succ, List.setIfInBounds_toArray, List.set_cons_zero, List.set_cons_succ]
                  refine wpAnyG_takeP (i := 18) (v := undef) rfl (by kernel_rfl) (by kernel_rfl) (by kernel_rfl) (fun _ _ _ h => h) rfl (Or.inr ⟨by rfl, rfl⟩) (by assumption) ?_
                  intro hSB18
                  try simp only [Act.put, List.getElem_toArray, List.getElem_cons_zero, List.getElem_cons_succ, List.setIfInBounds_toArray, List.set_cons_zero, List.set_cons_succ]
                  refine wpAnyG_takeP (i := 19) (v := undef) rfl (by kernel_rfl) (by kernel_rfl) (by kernel_rfl) (fun _ _ _ h => h) rfl (Or.inr ⟨by rfl, rfl⟩) (by assumption) ?_
                  intro hSB19
                  try simp only [Act.put, List.getElem_toArray, List.getElem_cons_zero, List.getElem_cons_succ, List.setIfInBounds_toArray, List.set_cons_zero, List.set_cons_succ]
                  refine wpAnyG_takeP (i := 20) (v := undef) rfl (by kernel_rfl) (by kernel_rfl) (by kernel_rfl) (fun _ _ _ h => h) rfl (Or.inr ⟨by rfl, rfl⟩) (by assumption) ?_
                  intro hSB20
                  try simp only [Act.put, List.getElem_toArray, List.getElem_cons_zero, List.getElem_cons_succ, List.setIfInBounds_toArray, List.set_cons_zero, List.set_cons_succ]
                  refine wpAnyG_takeP (i := 21) (v := undef) rfl (by kernel_rfl) (by kernel_rfl) (by kernel_rfl) (fun _ _ _ h => h) rfl (Or.inr ⟨by rfl, rfl⟩) (by assumption) ?_
                  intro hSB21
                  try simp only [Act.put, List.getElem_toArray, List.getElem_cons_zero, List.getElem_cons_succ, List.setIfInBounds_toArray, List.set_cons_zero, List.set_cons_succ]
                  refine wpAnyG_takeP (i := 22) (v := undef) rfl (by kernel_rfl) (by kernel_rfl) (by kernel_rfl) (fun _ _ _ h => h) rfl (Or.inr ⟨by rfl, rfl⟩) (by assumption) ?_
                  intro hSB22
                  try simp only [Act.put, List.getElem_toArray, List.getElem_cons_zero, List.getElem_cons_succ, List.setIfInBounds_toArray, List.set_cons_zero, List.set_cons_succ]
                  refine wpAnyG_takeP (i := 23) (v := ?_) rfl (by kernel_rfl) (by kernel_rfl) (by kernel_rfl) (fun _ _ _ h => h) rfl (Or.inl ⟨by rfl, ?_⟩) (by assumption) ?_
                  rotate_left
                  · intro Y _; go_simp; try with_reducible rfl
                  intro hSB23
                  try simp only [Act.put, List.getElem_toArray, List.getElem_cons_zero, List.getElem_cons_succ, List.setIfInBounds_toArray, List.set_cons_zero, List.set_cons_succ]
                  refine wpAnyG_done (by kernel_rfl) ?_ _
                  clear hSB hSB0 hSB1 hSB2 hSB3 hSB4 hSB5 hSB6 hSB7 hSB8 hSB9 hSB10 hSB11 hSB12 hSB13 hSB14 hSB15 hSB16 hSB17 hSB18 hSB19 hSB20 hSB21 hSB22 hSB23
                  go_wp2
                  go_ret2
                  exact ⟨_, _, rfl, ReadE.nothing HBad.out, HBd.out.1⟩
                · have ex0 : ((x : Int) == 0) = false := by simp; omega
                  by_cases hqz : q = 0
                  · subst hqz
                    obtain rfl := hq0 rfl
                    simp only [Nat.zero_mul, Nat.add_zero] at t1
                    clear hc1 hx H
                    go_upto_region 16 with fail
                    refine wp_region_G (S := SB 1000 (fun _ => True) (fun Y => Y.cell? ⟨b1, o1, none⟩ = some (.int .u64 (x : Int)))) hmx ?_
                    have hSB : SB 1000 (fun _ => True) (fun Y => Y.cell? ⟨b1, o1, none⟩ = some (.int .u64 (x : Int))) (Array.replicate 24 false) wr.drew := SB.on trivial t1
                    refine wpAnyG_takeP (i := 0) (v := ?_) rfl (by kernel_rfl) (by kernel_rfl) (by kernel_rfl) (fun _ _ _ h => h) rfl (Or.inl ⟨by rfl, ?_⟩) (by assumption) ?_
                    rotate_left
                    · intro Y _; go_simp; try with_reducible rfl
                    intro hSB0
                    try simp only [Act.put, List.getElem_toArray, List.getElem_cons_zero, List.setIfInBounds_toArray, List.set_cons_zero, List.set_cons_succ]
                    refine wpAnyG_takeP (i := 1) (v := ?_) rfl (by kernel_rfl) (by kernel_rfl) (by kernel_rfl) (fun _ _ _ h => h) rfl (Or.inl ⟨by rfl, ?_⟩) (by assumption) ?_
                    rotate_left
                    · intro Y _; go_simp; try with_reducible rfl
                    intro hSB1
                    try simp only [Act.put, List.getElem_toArray, List.getElem_cons_zero, List.getElem_cons_succ, List.setIfInBounds_toArray, List.set_cons_zero, List.set_cons_succ]
                    refine wpAnyG_takeP (i := 2) (v := ?_) rfl (by kernel_rfl) (by kernel_rfl) (by kernel_rfl) (fun _ _ _ h => h) rfl (Or.inl ⟨by rfl, ?_⟩) (by assumption) ?_
                    rotate_left
                    · intro Y _; go_simp; try with_reducible rfl
                    intro hSB2
                    try simp only [Act.put, List.getElem_toArray, List.getElem_cons_zero, List.getElem_cons_succ, List.setIfInBounds_toArray, List.set_cons_zero, List.set_cons_succ]
                    refine wpAnyG_takeP (i := 3) (v := ?_) rfl (by kernel_rfl) (by kernel_rfl) (by kernel_rfl) (fun _ _ _ h => h) rfl (Or.inl ⟨by rfl, ?_⟩) (by assumption) ?_
                    rotate_left
                    · intro Y _; go_simp; try with_reducible rfl
                    intro hSB3
                    try simp only [Act.put, List.getElem_toArray, List.getElem_cons_zero, List.getElem_cons_succ, List.setIfInBounds_toArray, List.set_cons_zero, List.set_cons_succ]
                    refine wpAnyG_takeP (i := 4) (v := ?_) rfl (by kernel_rfl) (by kernel_rfl) (by kernel_rfl) (fun _ _ _ h => h) rfl (Or.inl ⟨by rfl, ?_⟩) (by assumption) ?_
                    rotate_left
                    · intro Y hY; have y1 := hY; go_simp; try with_reducible rfl
                    intro hSB4
                    try simp only [Act.put, List.getElem_toArray, List.getElem_cons_zero, List.getElem_cons_succ, List.setIfInBounds_toArray, List.set_cons_zero, List.set_cons_succ]
                    refine wpAnyG_takeP (i := 5) (v := ?_) rfl (by kernel_rfl) (by kernel_rfl) (by kernel_rfl) (fun _ _ _ h => h) rfl (Or.inl ⟨by rfl, ?_⟩) (by assumption) ?_
                    rotate_left
                    · intro Y _; go_simp; try with_reducible rfl
                    intro hSB5
                    try simp only [Act.put, List.getElem_toArray, List.getElem_cons_zero, List.getElem_cons_succ, List.setIfInBounds_toArray, List.set_cons_zero, List.set_cons_succ]
                    try simp only [ex0]
                    refine wpAnyG_takeP (i := 6) (v := ?_) rfl (by kernel_rfl) (by kernel_rfl) (by kernel_rfl) (fun _ _ _ h => h) rfl (Or.inl ⟨by rfl, ?_⟩) (by assumption) ?_
                    rotate_left
                    · intro Y _; go_simp; try with_reducible rfl
                    intro hSB6
                    try simp only [Act.put, List.getElem_toArray, List.getElem_cons_zero, List.getElem_cons_succ, List.setIfInBounds_toArray, List.set_cons_zero, List.set_cons_succ]
                    refine wpAnyG_takeP (i := 7) (v := ?_) rfl (by kernel_rfl) (by kernel_rfl) (by kernel_rfl) (fun _ _ _ h => h) rfl (Or.inl ⟨by rfl, ?_⟩) (by assumption) ?_
                    rotate_left
                    · intro Y _; go_simp; try with_reducible rfl
                    intro hSB7
                    try simp only [Act.put, List.getElem_toArray, List.getElem_cons_zero, List.getElem_cons_succ, List.setIfInBounds_toArray, List.set_cons_zero, List.set_cons_succ]
                    refine wpAnyG_takeP (i := 8) (v := ?_) rfl (by kernel_rfl) (by kernel_rfl) (by kernel_rfl) (fun _ _ _ h => h) rfl (Or.inl ⟨by rfl, ?_⟩) (by assumption) ?_
                    rotate_left
                    · intro Y _; go_simp; try with_reducible rfl
                    intro hSB8
                    try simp only [Act.put, List.getElem_toArray, List.getElem_cons_zero, List.getElem_cons_succ, List.setIfInBounds_toArray, List.set_cons_zero, List.set_cons_succ]
                    refine wpAnyG_takeP (i := 9) (v := ?_) rfl (by kernel_rfl) (by kernel_rfl) (by kernel_rfl) (fun _ _ _ h => h) rfl (Or.inl ⟨by rfl, ?_⟩) (by assumption) ?_
                    rotate_left
                    · intro Y _; go_simp; try with_reducible rfl
                    intro hSB9
                    try simp only [Act.put, List.getElem_toArray, List.getElem_cons_zero, List.getElem_cons_succ, List.setIfInBounds_toArray, List.set_cons_zero, List.set_cons_succ]
                    refine wpAnyG_takeP (i := 10) (v := undef) rfl (by kernel_rfl) (by kernel_rfl) (by kernel_rfl) (fun _ _ _ h => h) rfl (Or.inr ⟨by rfl, rfl⟩) (by assumption) ?_
                    intro hSB10
                    try simp only [Act.put, List.getElem_toArray, List.getElem_cons_zero, List.getElem_cons_succ, List.setIfInBounds_toArray, List.set_cons_zero, List.set_cons_succ]
                    refine wpAnyG_takeP (i := 11) (v := undef) rfl (by kernel_rfl) (by kernel_rfl) (by kernel_rfl) (fun _ _ _ h => h) rfl (Or.inr ⟨by rfl, rfl⟩) (by assumption) ?_
                    intro hSB11
                    try simp only [Act.put, List.getElem_toArray, List.getElem_cons_zero, List.getElem_cons_succ, List.setIfInBounds_toArray, List.set_cons_zero, List.set_cons_succ]
                    refine wpAnyG_takeP (i := 12) (v := undef) rfl (by kernel_rfl) (by kernel_rfl) (by kernel_rfl) (fun _ _ _ h => h) rfl (Or.inr ⟨by rfl, rfl⟩) (by assumption) ?_
                    intro hSB12
                    try simp only [Act.put, List.getElem_toArray, List.getElem_cons_zero, List.getElem_cons_succ, List.setIfInBounds_toArray, List.set_cons_zero, List.set_cons_succ]
                    refine wpAnyG_takeP (i := 13) (v := undef) rfl (by kernel_rfl) (by kernel_rfl) (by kernel_rfl) (fun _ _ _ h => h) rfl (Or.inr ⟨by rfl, rfl⟩) (by assumption) ?_
                    intro hSB13
                    try simp only [Act.put, List.getElem_toArray, List.getElem_cons_zero, List.getElem_cons_succ, List.setIfInBounds_toArray, List.set_cons_zero, List.set_cons_succ]
                    refine wpAnyG_takeP (i := 14) (v := undef) rfl (by kernel_rfl) (by kernel_rfl) (by kernel_rfl) (fun _ _ _ h => h) rfl (Or.inr ⟨by rfl, rfl⟩) (by assumption) ?_
                    intro hSB14
                    try simp only [Act.put, List.getElem_toArray, List.getElem_cons_zero, List.getElem_cons_succ, List.setIfInBounds_toArray, List.set_cons_zero, List.set_cons_succ]
                    refine wpAnyG_takeP (i := 15) (v := undef) rfl (by kernel_rfl) (by kernel_rfl) (by kernel_rfl) (fun _ _ _ h => h) rfl (Or.inr ⟨by rfl, rfl⟩) (by assumption) ?_
                    intro hSB15
                    try simp only [Act.put, List.getElem_toArray, List.getElem_cons_zero, List.getElem_cons_succ, List.setIfInBounds_toArray, List.set_cons_zero, List.set_cons_succ]
                    refine wpAnyG_takeP (i := 16) (v := undef) rfl (by kernel_rfl) (by kernel_rfl) (by kernel_rfl) (fun _ _ _ h => h) rfl (Or.inr ⟨by rfl, rfl⟩) (by assumption) ?_
                    intro hSB16
                    try simp only [Act.put, List.getElem_toArray, List.getElem_cons_zero, List.getElem_cons_succ, List.setIfInBounds_toArray, List.set_cons_zero, List.set_cons_succ]
                    refine wpAnyG_takeP (i := 17) (v := undef) rfl (by kernel_rfl) (by kernel_rfl) (by kernel_rfl) (fun _ _ _ h => h) rfl (Or.inr ⟨by rfl, rfl⟩) (by assumption) ?_
                    intro hSB17
                    try simp only [Act.put, List.getElem_toArray, List.getElem_cons_zero, List.getElem_cons_succ, List.setIfInBounds_toArray, List.set_cons_zero, List.set_cons_succ]
                    refine wpAnyG_takeP (i := 18) (v := undef) rfl (by kernel_rfl) (by kernel_rfl) (by kernel_rfl) (fun _ _ _ h => h) rfl (Or.inr ⟨by rfl, rfl⟩) (by assumption) ?_
                    intro hSB18
                    try simp only [Act.put, List.getElem_toArray, List.getElem_cons_zero, List.getElem_cons_succ, List.setIfInBounds_toArray, List.set_cons_zero, List.set_cons_succ]
                    refine wpAnyG_takeP (i := 19) (v := undef) rfl (by kernel_rfl) (by kernel_rfl) (by kernel_rfl) (fun _ _ _ h => h) rfl (Or.inr ⟨by rfl, rfl⟩) (by assumption) ?_
                    intro hSB19
                    try simp only [Act.put, List.getElem_toArray, List.getElem_cons_zero, List.getElem_cons_succ, List.setIfInBounds_toArray, List.set_cons_zero, List.set_cons_succ]
                    refine wpAnyG_takeP (i := 20) (v := undef) rfl (by kernel_rfl) (by kernel_rfl) (by kernel_rfl) (fun _ _ _ h => h) rfl (Or.inr ⟨by rfl, rfl⟩) (by assumption) ?_
                    intro hSB20
                    try simp only [Act.put, List.getElem_toArray, List.getElem_cons_zero, List.getElem_cons_succ, List.setIfInBounds_toArray, List.set_cons_zero, List.set_cons_succ]
                    refine wpAnyG_takeP (i := 21) (v := undef) rfl (by kernel_rfl) (by kernel_rfl) (by kernel_rfl) (fun _ _ _ h => h) rfl (Or.inr ⟨by rfl, rfl⟩) (by assumption) ?_
                    intro hSB21
                    try simp only [Act.put, List.getElem_toArray, List.getElem_cons_zero, List.getElem_cons_succ, List.setIfInBounds_toArray, List.set_cons_zero, List.set_cons_succ]
                    refine wpAnyG_takeP (i := 22) (v := ?_) rfl (by kernel_rfl) (by kernel_rfl) (by kernel_rfl) (fun _ _ _ h => h) rfl (Or.inl ⟨by rfl, ?_⟩) (by assumption) ?_
                    rotate_left
                    · intro Y _; go_simp; try with_reducible rfl
                    intro hSB22
                    try simp only [Act.put, List.getElem_toArray, List.getElem_cons_zero, List.getElem_cons_succ, List.setIfInBounds_toArray, List.set_cons_zero, List.set_cons_succ]
                    refine wpAnyG_takeP (i := 23) (v := ?_) rfl (by kernel_rfl) (by kernel_rfl) (by kernel_rfl) (fun _ _ _ h => h) rfl (Or.inl ⟨by rfl, ?_⟩) (by assumption) ?_
                    rotate_left
                    · intro Y _; go_simp; try with_reducible rfl
                    intro hSB23
                    try simp only [Act.put, List.getElem_toArray, List.getElem_cons_zero, List.getElem_cons_succ, List.setIfInBounds_toArray, List.set_cons_zero, List.set_cons_succ]
                    refine wpAnyG_done (by kernel_rfl) ?_ _
                    clear hSB hSB0 hSB1 hSB2 hSB3 hSB4 hSB5 hSB6 hSB7 hSB8 hSB9 hSB10 hSB11 hSB12 hSB13 hSB14 hSB15 hSB16 hSB17 hSB18 hSB19 hSB20 hSB21 hSB22 hSB23
                    go_wp2
                    go_roundw
                    case rel => exact ⟨0 + 1, x, by omega, by go_num, fun h => by omega, by rw [HR.out, decide_eq_true (by omega), Bool.true_and], HN1.out, HBd.out.1, HBd.out.2⟩
                    case measure => simp [intOf]; omega
                  · obtain ⟨⟨px, py⟩, hp⟩ : ∃ x, T[q - 1]? = some x := ⟨_, List.getElem?_eq_getElem (by have := H.out.2.2.2.prs.1; omega)⟩
                    have hpe := H.out.2.1 _ (by omega) hp
                    simp only at hpe
                    subst hpe
                    have t2 := (hc1 (q - 1) _ hp).1
                    simp only at t2
                    have eq0 : (0 : Int) < (q : Int) := by omega
                    have eqn0 : 0 < q := by omega
                    have eq1 : (1 : Int) ≤ (q : Int) := by omega
                    have en0 : IntKind.i64.wrap ((q : Int) - 1) = (q : Int) - 1 := by simp [IntKind.wrap, IntKind.bits, IntKind.signed]; omega
                    have en1 : ((q : Int) - 1).toNat = q - 1 := by omega
                    have en2 : (0 : Int) ≤ (q : Int) - 1 := by omega
                    have en3 : (q : Int) - 1 < (j : Int) := by omega
                    have en4 : ¬ (j : Int) ≤ (q : Int) - 1 := by omega
                    clear hc1 hx H hp
                    by_cases hpx : px < x
                    · have ep : ¬ (x : Int) ≤ (px : Int) := by omega
                      go_upto_region 16 with fail
                      refine wp_region_G (S := SB 1000 (fun _ => True) (fun Y => Y.cell? ⟨b1, o1 + q * 2, none⟩ = some (.int .u64 (x : Int)) ∧ Y.cell? ⟨b1, o1 + (q - 1) * 2, none⟩ = some (.int .u64 (px : Int)))) hmx ?_
                      have hSB : SB 1000 (fun _ => True) (fun Y => Y.cell? ⟨b1, o1 + q * 2, none⟩ = some (.int .u64 (x : Int)) ∧ Y.cell? ⟨b1, o1 + (q - 1) * 2, none⟩ = some (.int .u64 (px : Int))) (Array.replicate 24 false) wr.drew := SB.on trivial ⟨t1, t2⟩
                      refine wpAnyG_takeP (i := 0) (v := ?_) rfl (by kernel_rfl) (by kernel_rfl) (by kernel_rfl) (fun _ _ _ h => h) rfl (Or.inl ⟨by rfl, ?_⟩) (by assumption) ?_
                      rotate_left
                      · intro Y _; go_simp; try with_reducible rfl
                      intro hSB0
                      try simp only [Act.put, List.getElem_toArray, List.getElem_cons_zero, List.setIfInBounds_toArray, List.set_cons_zero, List.set_cons_succ]
                      refine wpAnyG_takeP (i := 1) (v := ?_) rfl (by kernel_rfl) (by kernel_rfl) (by kernel_rfl) (fun _ _ _ h => h) rfl (Or.inl ⟨by rfl, ?_⟩) (by assumption) ?_
                      rotate_left
                      · intro Y _; go_simp; try with_reducible rfl
                      intro hSB1
                      try simp only [Act.put, List.getElem_toArray, List.getElem_cons_zero, List.getElem_cons_succ, List.setIfInBounds_toArray, List.set_cons_zero, List.set_cons_succ]
                      refine wpAnyG_takeP (i := 2) (v := ?_) rfl (by kernel_rfl) (by kernel_rfl) (by kernel_rfl) (fun _ _ _ h => h) rfl (Or.inl ⟨by rfl, ?_⟩) (by assumption) ?_
                      rotate_left
                      · intro Y _; go_simp; try with_reducible rfl
                      intro hSB2
                      try simp only [Act.put, List.getElem_toArray, List.getElem_cons_zero, List.getElem_cons_succ, List.setIfInBounds_toArray, List.set_cons_zero, List.set_cons_succ]
                      refine wpAnyG_takeP (i := 3) (v := ?_) rfl (by kernel_rfl) (by kernel_rfl) (by kernel_rfl) (fun _ _ _ h => h) rfl (Or.inl ⟨by rfl, ?_⟩) (by assumption) ?_
                      rotate_left
                      · intro Y _; go_simp; try with_reducible rfl
                      intro hSB3
                      try simp only [Act.put, List.getElem_toArray, List.getElem_cons_zero, List.getElem_cons_succ, List.setIfInBounds_toArray, List.set_cons_zero, List.set_cons_succ]
                      refine wpAnyG_takeP (i := 4) (v := ?_) rfl (by kernel_rfl) (by kernel_rfl) (by kernel_rfl) (fun _ _ _ h => h) rfl (Or.inl ⟨by rfl, ?_⟩) (by assumption) ?_
                      rotate_left
                      · intro Y hY; obtain ⟨y1, y2⟩ := hY; go_simp; try with_reducible rfl
                      intro hSB4
                      try simp only [Act.put, List.getElem_toArray, List.getElem_cons_zero, List.getElem_cons_succ, List.setIfInBounds_toArray, List.set_cons_zero, List.set_cons_succ]
                      refine wpAnyG_takeP (i := 5) (v := ?_) rfl (by kernel_rfl) (by kernel_rfl) (by kernel_rfl) (fun _ _ _ h => h) rfl (Or.inl ⟨by rfl, ?_⟩) (by assumption) ?_
                      rotate_left
                      · intro Y _; go_simp; try with_reducible rfl
                      intro hSB5
                      try simp only [Act.put, List.getElem_toArray, List.getElem_cons_zero, List.getElem_cons_succ, List.setIfInBounds_toArray, List.set_cons_zero, List.set_cons_succ]
                      try simp only [ex0]
                      refine wpAnyG_takeP (i := 6) (v := ?_) rfl (by kernel_rfl) (by kernel_rfl) (by kernel_rfl) (fun _ _ _ h => h) rfl (Or.inl ⟨by rfl, ?_⟩) (by assumption) ?_
                      rotate_left
                      · intro Y _; go_simp; try with_reducible rfl
                      intro hSB6
                      try simp only [Act.put, List.getElem_toArray, List.getElem_cons_zero, List.getElem_cons_succ, List.setIfInBounds_toArray, List.set_cons_zero, List.set_cons_succ]
                      refine wpAnyG_takeP (i := 7) (v := ?_) rfl (by kernel_rfl) (by kernel_rfl) (by kernel_rfl) (fun _ _ _ h => h) rfl (Or.inl ⟨by rfl, ?_⟩) (by assumption) ?_
                      rotate_left
                      · intro Y _; go_simp; try with_reducible rfl
                      intro hSB7
                      try simp only [Act.put, List.getElem_toArray, List.getElem_cons_zero, List.getElem_cons_succ, List.setIfInBounds_toArray, List.set_cons_zero, List.set_cons_succ]
                      refine wpAnyG_takeP (i := 8) (v := ?_) rfl (by kernel_rfl) (by kernel_rfl) (by kernel_rfl) (fun _ _ _ h => h) rfl (Or.inl ⟨by rfl, ?_⟩) (by assumption) ?_
                      rotate_left
                      · intro Y _; go_simp; try with_reducible rfl
                      intro hSB8
                      try simp only [Act.put, List.getElem_toArray, List.getElem_cons_zero, List.getElem_cons_succ, List.setIfInBounds_toArray, List.set_cons_zero, List.set_cons_succ]
                      try simp only [eq0, eqn0, decide_true]
                      refine wpAnyG_takeP (i := 9) (v := ?_) rfl (by kernel_rfl) (by kernel_rfl) (by kernel_rfl) (fun _ _ _ h => h) rfl (Or.inl ⟨by rfl, ?_⟩) (by assumption) ?_
                      rotate_left
                      · intro Y _; go_simp; try with_reducible rfl
                      intro hSB9
                      try simp only [Act.put, List.getElem_toArray, List.getElem_cons_zero, List.getElem_cons_succ, List.setIfInBounds_toArray, List.set_cons_zero, List.set_cons_succ]
                      refine wpAnyG_takeP (i := 10) (v := ?_) rfl (by kernel_rfl) (by kernel_rfl) (by kernel_rfl) (fun _ _ _ h => h) rfl (Or.inl ⟨by rfl, ?_⟩) (by assumption) ?_
                      rotate_left
                      · intro Y _; go_simp; try with_reducible rfl
                      intro hSB10
                      try simp only [Act.put, List.getElem_toArray, List.getElem_cons_zero, List.getElem_cons_succ, List.setIfInBounds_toArray, List.set_cons_zero, List.set_cons_succ]
                      refine wpAnyG_takeP (i := 11) (v := ?_) rfl (by kernel_rfl) (by kernel_rfl) (by kernel_rfl) (fun _ _ _ h => h) rfl (Or.inl ⟨by rfl, ?_⟩) (by assumption) ?_
                      rotate_left
                      · intro Y _; go_simp; try with_reducible rfl
                      intro hSB11
                      try simp only [Act.put, List.getElem_toArray, List.getElem_cons_zero, List.getElem_cons_succ, List.setIfInBounds_toArray, List.set_cons_zero, List.set_cons_succ]
                      refine wpAnyG_takeP (i := 12) (v := ?_) rfl (by kernel_rfl) (by kernel_rfl) (by kernel_rfl) (fun _ _ _ h => h) rfl (Or.inl ⟨by rfl, ?_⟩) (by assumption) ?_
                      rotate_left
                      · intro Y _; go_simp; try with_reducible rfl
                      intro hSB12
                      try simp only [Act.put, List.getElem_toArray, List.getElem_cons_zero, List.getElem_cons_succ, List.setIfInBounds_toArray, List.set_cons_zero, List.set_cons_succ]
                      try simp only [en0, en1]
                      refine wpAnyG_takeP (i := 13) (v := ?_) rfl (by kernel_rfl) (by kernel_rfl) (by kernel_rfl) (fun _ _ _ h => h) rfl (Or.inl ⟨by rfl, ?_⟩) (by assumption) ?_
                      rotate_left
                      · intro Y _; go_simp; try with_reducible rfl
                      intro hSB13
                      try simp only [Act.put, List.getElem_toArray, List.getElem_cons_zero, List.getElem_cons_succ, List.setIfInBounds_toArray, List.set_cons_zero, List.set_cons_succ]
                      refine wpAnyG_takeP (i := 14) (v := ?_) rfl (by kernel_rfl) (by kernel_rfl) (by kernel_rfl) (fun _ _ _ h => h) rfl (Or.inl ⟨by rfl, ?_⟩) (by assumption) ?_
                      rotate_left
                      · intro Y _; go_simp; try with_reducible rfl
                      intro hSB14
                      try simp only [Act.put, List.getElem_toArray, List.getElem_cons_zero, List.getElem_cons_succ, List.setIfInBounds_toArray, List.set_cons_zero, List.set_cons_succ]
                      refine wpAnyG_takeP (i := 15) (v := ?_) rfl (by kernel_rfl) (by kernel_rfl) (by kernel_rfl) (fun _ _ _ h => h) rfl (Or.inl ⟨by rfl, ?_⟩) (by assumption) ?_
                      rotate_left
                      · intro Y hY; obtain ⟨y1, y2⟩ := hY; go_simp; try with_reducible rfl
                      intro hSB15
                      try simp only [Act.put, List.getElem_toArray, List.getElem_cons_zero, List.getElem_cons_succ, List.setIfInBounds_toArray, List.set_cons_zero, List.set_cons_succ]
                      refine wpAnyG_takeP (i := 16) (v := ?_) rfl (by kernel_rfl) (by kernel_rfl) (by kernel_rfl) (fun _ _ _ h => h) rfl (Or.inl ⟨by rfl, ?_⟩) (by assumption) ?_
                      rotate_left
                      · intro Y _; go_simp; try with_reducible rfl
                      intro hSB16
                      try simp only [Act.put, List.getElem_toArray, List.getElem_cons_zero, List.getElem_cons_succ, List.setIfInBounds_toArray, List.set_cons_zero, List.set_cons_succ]
                      refine wpAnyG_takeP (i := 17) (v := ?_) rfl (by kernel_rfl) (by kernel_rfl) (by kernel_rfl) (fun _ _ _ h => h) rfl (Or.inl ⟨by rfl, ?_⟩) (by assumption) ?_
                      rotate_left
                      · intro Y _; go_simp; try with_reducible rfl
                      intro hSB17
                      try simp only [Act.put, List.getElem_toArray, List.getElem_cons_zero, List.getElem_cons_succ, List.setIfInBounds_toArray, List.set_cons_zero, List.set_cons_succ]
                      refine wpAnyG_takeP (i := 18) (v := ?_) rfl (by kernel_rfl) (by kernel_rfl) (by kernel_rfl) (fun _ _ _ h => h) rfl (Or.inl ⟨by rfl, ?_⟩) (by assumption) ?_
                      rotate_left
                      · intro Y _; go_simp; try with_reducible rfl
                      intro hSB18
                      try simp only [Act.put, List.getElem_toArray, List.getElem_cons_zero, List.getElem_cons_succ, List.setIfInBounds_toArray, List.set_cons_zero, List.set_cons_succ]
                      refine wpAnyG_takeP (i := 19) (v := ?_) rfl (by kernel_rfl) (by kernel_rfl) (by kernel_rfl) (fun _ _ _ h => h) rfl (Or.inl ⟨by rfl, ?_⟩) (by assumption) ?_
                      rotate_left
                      · intro Y _; go_simp; try with_reducible rfl
                      intro hSB19
                      try simp only [Act.put, List.getElem_toArray, List.getElem_cons_zero, List.getElem_cons_succ, List.setIfInBounds_toArray, List.set_cons_zero, List.set_cons_succ]
                      refine wpAnyG_takeP (i := 20) (v := ?_) rfl (by kernel_rfl) (by kernel_rfl) (by kernel_rfl) (fun _ _ _ h => h) rfl (Or.inl ⟨by rfl, ?_⟩) (by assumption) ?_
                      rotate_left
                      · intro Y hY; obtain ⟨y1, y2⟩ := hY; go_simp; try with_reducible rfl
                      intro hSB20
                      try simp only [Act.put, List.getElem_toArray, List.getElem_cons_zero, List.getElem_cons_succ, List.setIfInBounds_toArray, List.set_cons_zero, List.set_cons_succ]
                      refine wpAnyG_takeP (i := 21) (v := ?_) rfl (by kernel_rfl) (by kernel_rfl) (by kernel_rfl) (fun _ _ _ h => h) rfl (Or.inl ⟨by rfl, ?_⟩) (by assumption) ?_
                      rotate_left
                      · intro Y _; go_simp; try with_reducible rfl
                      intro hSB21
                      try simp only [Act.put, List.getElem_toArray, List.getElem_cons_zero, List.getElem_cons_succ, List.setIfInBounds_toArray, List.set_cons_zero, List.set_cons_succ]
                      refine wpAnyG_takeP (i := 22) (v := ?_) rfl (by kernel_rfl) (by kernel_rfl) (by kernel_rfl) (fun _ _ _ h => h) rfl (Or.inl ⟨by rfl, ?_⟩) (by assumption) ?_
                      rotate_left
                      · intro Y _; go_simp; try with_reducible rfl
                      intro hSB22
                      try simp only [Act.put, List.getElem_toArray, List.getElem_cons_zero, List.getElem_cons_succ, List.setIfInBounds_toArray, List.set_cons_zero, List.set_cons_succ]
                      refine wpAnyG_takeP (i := 23) (v := ?_) rfl (by kernel_rfl) (by kernel_rfl) (by kernel_rfl) (fun _ _ _ h => h) rfl (Or.inl ⟨by rfl, ?_⟩) (by assumption) ?_
                      rotate_left
                      · intro Y _; go_simp; try with_reducible rfl
                      intro hSB23
                      try simp only [Act.put, List.getElem_toArray, List.getElem_cons_zero, List.getElem_cons_succ, List.setIfInBounds_toArray, List.set_cons_zero, List.set_cons_succ]
                      refine wpAnyG_done (by kernel_rfl) ?_ _
                      clear hSB hSB0 hSB1 hSB2 hSB3 hSB4 hSB5 hSB6 hSB7 hSB8 hSB9 hSB10 hSB11 hSB12 hSB13 hSB14 hSB15 hSB16 hSB17 hSB18 hSB19 hSB20 hSB21 hSB22 hSB23
                      go_wp2
                      go_roundw
                      case rel => exact ⟨q + 1, x, by omega, by go_num, fun h => by omega, by rw [HR.out, decide_eq_true hpx, Bool.true_and], HN1.out, HBd.out.1, HBd.out.2⟩
                      case measure => simp [intOf]; omega
                    · have ep : (x : Int) ≤ (px : Int) := by omega
                      have HBad : Hid (pairsR b = none) := read_bad (by rw [HT0.out.2, HT.out, HR.out, decide_eq_false hpx]; simp)
                      go_upto_region 16 with fail
                      refine wp_region_G (S := SB 1000 (fun _ => True) (fun Y => Y.cell? ⟨b1, o1 + q * 2, none⟩ = some (.int .u64 (x : Int)) ∧ Y.cell? ⟨b1, o1 + (q - 1) * 2, none⟩ = some (.int .u64 (px : Int)))) hmx ?_
                      have hSB : SB 1000 (fun _ => True) (fun Y => Y.cell? ⟨b1, o1 + q * 2, none⟩ = some (.int .u64 (x : Int)) ∧ Y.cell? ⟨b1, o1 + (q - 1) * 2, none⟩ = some (.int .u64 (px : Int))) (Array.replicate 24 false) wr.drew := SB.on trivial ⟨t1, t2⟩
                      refine wpAnyG_takeP (i := 0) (v := ?_) rfl (by kernel_rfl) (by kernel_rfl) (by kernel_rfl) (fun _ _ _ h => h) rfl (Or.inl ⟨by rfl, ?_⟩) (by assumption) ?_
                      rotate_left
                      · intro Y _; go_simp; try with_reducible rfl
                      intro hSB0
                      try simp only [Act.put, List.getElem_toArray, List.getElem_cons_zero, List.setIfInBounds_toArray, List.set_cons_zero, List.set_cons_succ]
                      refine wpAnyG_takeP (i := 1) (v := ?_) rfl (by kernel_rfl) (by kernel_rfl) (by kernel_rfl) (fun _ _ _ h => h) rfl (Or.inl ⟨by rfl, ?_⟩) (by assumption) ?_
                      rotate_left
                      · intro Y _; go_simp; try with_reducible rfl
                      intro hSB1
                      try simp only [Act.put, List.getElem_toArray, List.getElem_cons_zero, List.getElem_cons_succ, List.setIfInBounds_toArray, List.set_cons_zero, List.set_cons_succ]
                      refine wpAnyG_takeP (i := 2) (v := ?_) rfl (by kernel_rfl) (by kernel_rfl) (by kernel_rfl) (fun _ _ _ h => h) rfl (Or.inl ⟨by rfl, ?_⟩) (by assumption) ?_
                      rotate_left
                      · intro Y _; go_simp; try with_reducible rfl
                      intro hSB2
                      try simp only [Act.put, List.getElem_toArray, List.getElem_cons_zero, List.getElem_cons_succ, List.setIfInBounds_toArray, List.set_cons_zero, List.set_cons_succ]
                      refine wpAnyG_takeP (i := 3) (v := ?_) rfl (by kernel_rfl) (by kernel_rfl) (by kernel_rfl) (fun _ _ _ h => h) rfl (Or.inl ⟨by rfl, ?_⟩) (by assumption) ?_
                      rotate_left
                      · intro Y _; go_simp; try with_reducible rfl
                      intro hSB3
                      try simp only [Act.put, List.getElem_toArray, List.getElem_cons_zero, List.getElem_cons_succ, List.setIfInBounds_toArray, List.set_cons_zero, List.set_cons_succ]
                      refine wpAnyG_takeP (i := 4) (v := ?_) rfl (by kernel_rfl) (by kernel_rfl) (by kernel_rfl) (fun _ _ _ h => h) rfl (Or.inl ⟨by rfl, ?_⟩) (by assumption) ?_
                      rotate_left
                      · intro Y hY; obtain ⟨y1, y2⟩ := hY; go_simp; try with_reducible rfl
                      intro hSB4
                      try simp only [Act.put, List.getElem_toArray, List.getElem_cons_zero, List.getElem_cons_succ, List.setIfInBounds_toArray, List.set_cons_zero, List.set_cons_succ]
                      refine wpAnyG_takeP (i := 5) (v := ?_) rfl (by kernel_rfl) (by kernel_rfl) (by kernel_rfl) (fun _ _ _ h => h) rfl (Or.inl ⟨by rfl, ?_⟩) (by assumption) ?_
                      rotate_left
                      · intro Y _; go_simp; try with_reducible rfl
                      intro hSB5
                      try simp only [Act.put, List.getElem_toArray, List.getElem_cons_zero, List.getElem_cons_succ, List.setIfInBounds_toArray, List.set_cons_zero, List.set_cons_succ]
                      try simp only [ex0]
                      refine wpAnyG_takeP (i := 6) (v := ?_) rfl (by kernel_rfl) (by kernel_rfl) (by kernel_rfl) (fun _ _ _ h => h) rfl (Or.inl ⟨by rfl, ?_⟩) (by assumption) ?_
                      rotate_left
                      · intro Y _; go_simp; try with_reducible rfl
                      intro hSB6
                      try simp only [Act.put, List.getElem_toArray, List.getElem_cons_zero, List.getElem_cons_succ, List.setIfInBounds_toArray, List.set_cons_zero, List.set_cons_succ]
                      refine wpAnyG_takeP (i := 7) (v := ?_) rfl (by kernel_rfl) (by kernel_rfl) (by kernel_rfl) (fun _ _ _ h => h) rfl (Or.inl ⟨by rfl, ?_⟩) (by assumption) ?_
                      rotate_left
                      · intro Y _; go_simp; try with_reducible rfl
                      intro hSB7
                      try simp only [Act.put, List.getElem_toArray, List.getElem_cons_zero, List.getElem_cons_succ, List.setIfInBounds_toArray, List.set_cons_zero, List.set_cons_succ]
                      refine wpAnyG_takeP (i := 8) (v := ?_) rfl (by kernel_rfl) (by kernel_rfl) (by kernel_rfl) (fun _ _ _ h => h) rfl (Or.inl ⟨by rfl, ?_⟩) (by assumption) ?_
                      rotate_left
                      · intro Y _; go_simp; try with_reducible rfl
                      intro hSB8
                      try simp only [Act.put, List.getElem_toArray, List.getElem_cons_zero, List.getElem_cons_succ, List.setIfInBounds_toArray, List.set_cons_zero, List.set_cons_succ]
                      try simp only [eq0, eqn0, decide_true]
                      refine wpAnyG_takeP (i := 9) (v := ?_) rfl (by kernel_rfl) (by kernel_rfl) (by kernel_rfl) (fun _ _ _ h => h) rfl (Or.inl ⟨by rfl, ?_⟩) (by assumption) ?_
                      rotate_left
                      · intro Y _; go_simp; try with_reducible rfl
                      intro hSB9
                      try simp only [Act.put, List.getElem_toArray, List.getElem_cons_zero, List.getElem_cons_succ, List.setIfInBounds_toArray, List.set_cons_zero, List.set_cons_succ]
                      refine wpAnyG_takeP (i := 10) (v := ?_) rfl (by kernel_rfl) (by kernel_rfl) (by kernel_rfl) (fun _ _ _ h => h) rfl (Or.inl ⟨by rfl, ?_⟩) (by assumption) ?_
                      rotate_left
                      · intro Y _; go_simp; try with_reducible rfl
                      intro hSB10
                      try simp only [Act.put, List.getElem_toArray, List.getElem_cons_zero, List.getElem_cons_succ, List.setIfInBounds_toArray, List.set_cons_zero, List.set_cons_succ]
                      refine wpAnyG_takeP (i := 11) (v := ?_) rfl (by kernel_rfl) (by kernel_rfl) (by kernel_rfl) (fun _ _ _ h => h) rfl (Or.inl ⟨by rfl, ?_⟩) (by assumption) ?_
                      rotate_left
                      · intro Y _; go_simp; try with_reducible rfl
                      intro hSB11
                      try simp only [Act.put, List.getElem_toArray, List.getElem_cons_zero, List.getElem_cons_succ, List.setIfInBounds_toArray, List.set_cons_zero, List.set_cons_succ]
                      refine wpAnyG_takeP (i := 12) (v := ?_) rfl (by kernel_rfl) (by kernel_rfl) (by kernel_rfl) (fun _ _ _ h => h) rfl (Or.inl ⟨by rfl, ?_⟩) (by assumption) ?_
                      rotate_left
                      · intro Y _; go_simp; try with_reducible rfl
                      intro hSB12
                      try simp only [Act.put, List.getElem_toArray, List.getElem_cons_zero, List.getElem_cons_succ, List.setIfInBounds_toArray, List.set_cons_zero, List.set_cons_succ]
                      try simp only [en0, en1]
                      refine wpAnyG_takeP (i := 13) (v := ?_) rfl (by kernel_rfl) (by kernel_rfl) (by kernel_rfl) (fun _ _ _ h => h) rfl (Or.inl ⟨by rfl, ?_⟩) (by assumption) ?_
                      rotate_left
                      · intro Y _; go_simp; try with_reducible rfl
                      intro hSB13
                      try simp only [Act.put, List.getElem_toArray, List.getElem_cons_zero, List.getElem_cons_succ, List.setIfInBounds_toArray, List.set_cons_zero, List.set_cons_succ]
                      refine wpAnyG_takeP (i := 14) (v := ?_) rfl (by kernel_rfl) (by kernel_rfl) (by kernel_rfl) (fun _ _ _ h => h) rfl (Or.inl ⟨by rfl, ?_⟩) (by assumption) ?_
                      rotate_left
                      · intro Y _; go_simp; try with_reducible rfl
                      intro hSB14
                      try simp only [Act.put, List.getElem_toArray, List.getElem_cons_zero, List.getElem_cons_succ, List.setIfInBounds_toArray, List.set_cons_zero, List.set_cons_succ]
                      refine wpAnyG_takeP (i := 15) (v := ?_) rfl (by kernel_rfl) (by kernel_rfl) (by kernel_rfl) (fun _ _ _ h => h) rfl (Or.inl ⟨by rfl, ?_⟩) (by assumption) ?_
                      rotate_left
                      · intro Y hY; obtain ⟨y1, y2⟩ := hY; go_simp; try with_reducible rfl
                      intro hSB15
                      try simp only [Act.put, List.getElem_toArray, List.getElem_cons_zero, List.getElem_cons_succ, List.setIfInBounds_toArray, List.set_cons_zero, List.set_cons_succ]
                      refine wpAnyG_takeP (i := 16) (v := ?_) rfl (by kernel_rfl) (by kernel_rfl) (by kernel_rfl) (fun _ _ _ h => h) rfl (Or.inl ⟨by rfl, ?_⟩) (by assumption) ?_
                      rotate_left
                      · intro Y _; go_simp; try with_reducible rfl
                      intro hSB16
                      try simp only [Act.put, List.getElem_toArray, List.getElem_cons_zero, List.getElem_cons_succ, List.setIfInBounds_toArray, List.set_cons_zero, List.set_cons_succ]
                      refine wpAnyG_takeP (i := 17) (v := ?_) rfl (by kernel_rfl) (by kernel_rfl) (by kernel_rfl) (fun _ _ _ h => h) rfl (Or.inl ⟨by rfl, ?_⟩) (by assumption) ?_
                      rotate_left
                      · intro Y _; go_simp; try with_reducible rfl
                      intro hSB17
                      try simp only [Act.put, List.getElem_toArray, List.getElem_cons_zero, List.getElem_cons_succ, List.setIfInBounds_toArray, List.set_cons_zero, List.set_cons_succ]
                      refine wpAnyG_takeP (i := 18) (v := ?_) rfl (by kernel_rfl) (by kernel_rfl) (by kernel_rfl) (fun _ _ _ h => h) rfl (Or.inl ⟨by rfl, ?_⟩) (by assumption) ?_
                      rotate_left
                      · intro Y _; go_simp; try with_reducible rfl
                      intro hSB18
                      try simp only [Act.put, List.getElem_toArray, List.getElem_cons_zero, List.getElem_cons_succ, List.setIfInBounds_toArray, List.set_cons_zero, List.set_cons_succ]
                      refine wpAnyG_takeP (i := 19) (v := ?_) rfl (by kernel_rfl) (by kernel_rfl) (by kernel_rfl) (fun _ _ _ h => h) rfl (Or.inl ⟨by rfl, ?_⟩) (by assumption) ?_
                      rotate_left
                      · intro Y _; go_simp; try with_reducible rfl
                      intro hSB19
                      try simp only [Act.put, List.getElem_toArray, List.getElem_cons_zero, List.getElem_cons_succ, List.setIfInBounds_toArray, List.set_cons_zero, List.set_cons_succ]
                      refine wpAnyG_takeP (i := 20) (v := ?_) rfl (by kernel_rfl) (by kernel_rfl) (by kernel_rfl) (fun _ _ _ h => h) rfl (Or.inl ⟨by rfl, ?_⟩) (by assumption) ?_
                      rotate_left
                      · intro Y hY; obtain ⟨y1, y2⟩ := hY; go_simp; try with_reducible rfl
                      intro hSB20
                      try simp only [Act.put, List.getElem_toArray, List.getElem_cons_zero, List.getElem_cons_succ, List.setIfInBounds_toArray, List.set_cons_zero, List.set_cons_succ]
                      refine wpAnyG_takeP (i := 21) (v := ?_) rfl (by kernel_rfl) (by kernel_rfl) (by kernel_rfl) (fun _ _ _ h => h) rfl (Or.inl ⟨by rfl, ?_⟩) (by assumption) ?_
                      rotate_left
                      · intro Y _; go_simp; try with_reducible rfl
                      intro hSB21
                      try simp only [Act.put, List.getElem_toArray, List.getElem_cons_zero, List.getElem_cons_succ, List.setIfInBounds_toArray, List.set_cons_zero, List.set_cons_succ]
                      refine wpAnyG_takeP (i := 22) (v := ?_) rfl (by kernel_rfl) (by kernel_rfl) (by kernel_rfl) (fun _ _ _ h => h) rfl (Or.inl ⟨by rfl, ?_⟩) (by assumption) ?_
                      rotate_left
                      · intro Y _; go_simp; try with_reducible rfl
                      intro hSB22
                      try simp only [Act.put, List.getElem_toArray, List.getElem_cons_zero, List.getElem_cons_succ, List.setIfInBounds_toArray, List.set_cons_zero, List.set_cons_succ]
                      refine wpAnyG_takeP (i := 23) (v := ?_) rfl (by kernel_rfl) (by kernel_rfl) (by kernel_rfl) (fun _ _ _ h => h) rfl (Or.inl ⟨by rfl, ?_⟩) (by assumption) ?_
                      rotate_left
                      · intro Y _; go_simp; try with_reducible rfl
                      intro hSB23
                      try simp only [Act.put, List.getElem_toArray, List.getElem_cons_zero, List.getElem_cons_succ, List.setIfInBounds_toArray, List.set_cons_zero, List.set_cons_succ]
                      refine wpAnyG_done (by kernel_rfl) ?_ _
                      clear hSB hSB0 hSB1 hSB2 hSB3 hSB4 hSB5 hSB6 hSB7 hSB8 hSB9 hSB10 hSB11 hSB12 hSB13 hSB14 hSB15 hSB16 hSB17 hSB18 hSB19 hSB20 hSB21 hSB22 hSB23
                      go_wp2
                      go_ret2
                      exact ⟨_, _, rfl, ReadE.nothing HBad.out, HBd.out.1⟩
              · obtain rfl : q = j := by omega
                have hris : risF 0 (tellP b) = true := by
                  rw [HT0.out.2, HT.out, H.out.1, List.drop_of_length_le (by rw [H.out.2.2.2.prs.1]; exact Nat.le_refl _)]
                  rfl
                have HGd : Hid ((pairsR b = some T ∧ runB T = b) ∨ (pairsR b = none ∧ runB T ≠ b)) := by
                  have := read_good HT0.out.1 hris
                  rw [HT0.out.2, HT.out] at this
                  exact this
                have hok : PrOk T := by
                  have := (fit_parts HT0.out.1).2.2.2.1
                  rw [HT0.out.2, HT.out] at this
                  exact this
                have HBd : Hid (Below w1.heap.size w1 wr ∧ PrQ wr ad q cp T) := ⟨H.out.2.2.1, H.out.2.2.2⟩
                have HBb : Hid (∀ Y, Below wr.heap.size wr Y → Calls Try.prog 8 #[.slice ad q cp] Y fun e w' => ∃ ad cp, e = .returned (.slice ad (runB T).length cp) ∧ w'.ownsRow Y.heap.size 5 1 (.slice ad (runB T).length cp) (runB T).length (cellsOf (runB T)) ∧ Below Y.heap.size Y w') := fun Y hY => rbytes_any Y ad q cp T (HBd.out.2.prs.kept hY) hok (by omega)
                have HC : Hid (∀ Y, Below wr.heap.size wr Y → (convert 23 9 (.slice (some ⟨qa, qo, none⟩) n c)).run Try.prog Y = .ok (.string ⟨b.toArray⟩) Y) := fun Y hY => run_string Y _ n c b ((HB.out.1.low HBd.out.1).low hY)
                clear H hris hok
                go_upto_region 18 with fail
                refine wp_region_G (S := SB 1000 (fun _ => True) (fun Y => Below wr.heap.size wr Y)) hmx ?_
                have hBd : Below wr.heap.size wr wr.drew := ⟨rfl, rfl, rfl, Nat.le_refl _, fun _ _ => rfl⟩
                have hSB : SB 1000 (fun _ => True) (fun Y => Below wr.heap.size wr Y) (Array.replicate 9 false) wr.drew := SB.on trivial hBd
                refine wpAnyG_takeP (i := 0) (v := ?_) rfl (by kernel_rfl) (by kernel_rfl) (by kernel_rfl) (fun _ _ _ h => h) rfl (Or.inl ⟨by rfl, ?_⟩) (by assumption) ?_
                rotate_left
                · intro Y _; go_simp; try with_reducible rfl
                intro hSB0
                try simp only [Act.put, List.getElem_toArray, List.getElem_cons_zero, List.setIfInBounds_toArray, List.set_cons_zero, List.set_cons_succ]
                refine wpAnyG_takeP (i := 1) (v := ?_) rfl (by kernel_rfl) (by kernel_rfl) (by kernel_rfl) (fun _ _ _ h => h) rfl (Or.inl ⟨by rfl, ?_⟩) (by assumption) ?_
                rotate_left
                · intro Y _; go_simp; try with_reducible rfl
                intro hSB1
                try simp only [Act.put, List.getElem_toArray, List.getElem_cons_zero, List.getElem_cons_succ, List.setIfInBounds_toArray, List.set_cons_zero, List.set_cons_succ]
                refine wpAnyG_takeP (i := 4) (v := ?_) rfl (by kernel_rfl) (by kernel_rfl) (by kernel_rfl) (fun _ _ _ h => h) rfl (Or.inl ⟨by rfl, ?_⟩) (by assumption) ?_
                rotate_left
                · intro Y _; go_simp; try with_reducible rfl
                intro hSB4
                try simp only [Act.put, List.getElem_toArray, List.getElem_cons_zero, List.getElem_cons_succ, List.setIfInBounds_toArray, List.set_cons_zero, List.set_cons_succ]
                refine wpAnyG_takeP (i := 5) (v := ?_) rfl (by kernel_rfl) (by kernel_rfl) (by kernel_rfl) (fun _ _ _ h => h) rfl (Or.inl ⟨by rfl, ?_⟩) (by assumption) ?_
                rotate_left
                · intro Y hY; have h4 := HC.out Y hY; go_simp; try with_reducible rfl
                intro hSB5
                try simp only [Act.put, List.getElem_toArray, List.getElem_cons_zero, List.getElem_cons_succ, List.setIfInBounds_toArray, List.set_cons_zero, List.set_cons_succ]
                refine wpAnyG_one (i := 2) (by kernel_rfl) rfl (fun K hK => ?_)
                refine vstep_bytesG _ (by rfl) _ _ (by rfl) _ (by rfl) (fun v W => ∃ ba bc, v = .slice ba (runB T).length bc ∧ W.ownsRow wr.drew.heap.size 5 1 (.slice ba (runB T).length bc) (runB T).length (cellsOf (runB T)) ∧ Below wr.heap.size wr W) ((HBb.out wr.drew hBd).mono (fun e w' ⟨ba, bc, h1, h2, h3⟩ => ⟨_, h1, ba, bc, rfl, h2, hBd.trans (h3.mono hBd.size)⟩)) ?_
                rintro v w8 ⟨ba, bc, rfl, ho8, hB8⟩
                refine hK.out _ _ (SB.on trivial hB8) (fun hSB2 => ?_)
                clear hK K
                try simp only [Act.put, List.getElem_toArray, List.getElem_cons_zero, List.getElem_cons_succ, List.setIfInBounds_toArray, List.set_cons_zero, List.set_cons_succ]
                refine wpAnyG_takeP (i := 7) (v := ?_) rfl (by kernel_rfl) (by kernel_rfl) (by kernel_rfl) (fun _ _ _ h => h) rfl (Or.inl ⟨by rfl, ?_⟩) (by assumption) ?_
                rotate_left
                · intro Y _; go_simp; try with_reducible rfl
                intro hSB7
                try simp only [Act.put, List.getElem_toArray, List.getElem_cons_zero, List.getElem_cons_succ, List.setIfInBounds_toArray, List.set_cons_zero, List.set_cons_succ]
                have hr8 := run_string w8 ba (runB T).length bc (runB T) (own_slice ho8).1
                refine wpAnyG_one (i := 3) (by kernel_rfl) rfl (fun K hK => ?_)
                refine vstep_strG _ (by rfl) _ (by rfl) _ (by rfl) _ hr8 ?_
                refine hK.out _ _ (SB.on trivial hB8) (fun hSB3 => ?_)
                clear hK K
                try simp only [Act.put, List.getElem_toArray, List.getElem_cons_zero, List.getElem_cons_succ, List.setIfInBounds_toArray, List.set_cons_zero, List.set_cons_succ]
                obtain ⟨eq, heq⟩ : ∃ eq : Bool, eq = (runB T == b) := ⟨_, rfl⟩
                refine wpAnyG_takeP (i := 6) (v := ?_) rfl (by kernel_rfl) (by kernel_rfl) (by kernel_rfl) (fun _ _ _ h => h) rfl (Or.inl ⟨by rfl, ?_⟩) (by assumption) ?_
                rotate_left
                · intro Y _; go_simp; try with_reducible rfl
                intro hSB6
                try simp only [Act.put, List.getElem_toArray, List.getElem_cons_zero, List.getElem_cons_succ, List.setIfInBounds_toArray, List.set_cons_zero, List.set_cons_succ]
                try simp only [← heq]
                refine wpAnyG_takeP (i := 8) (v := ?_) rfl (by kernel_rfl) (by kernel_rfl) (by kernel_rfl) (fun _ _ _ h => h) rfl (Or.inl ⟨by rfl, ?_⟩) (by assumption) ?_
                rotate_left
                · intro Y _; go_simp; try with_reducible rfl
                intro hSB8
                try simp only [Act.put, List.getElem_toArray, List.getElem_cons_zero, List.getElem_cons_succ, List.setIfInBounds_toArray, List.set_cons_zero, List.set_cons_succ]
                refine wpAnyG_done (by kernel_rfl) ?_ _
                clear hSB hSB0 hSB1 hSB2 hSB3 hSB4 hSB5 hSB6 hSB7 hSB8
                have HZ : Hid (ReadE b (.slice ad q cp) eq w8 ∧ Below w1.heap.size w1 w8) := by
                  refine ⟨⟨ad, q, cp, T, rfl, HBd.out.2.kept hB8, by omega, ?_⟩, HBd.out.1.trans (hB8.mono HBd.out.1.size)⟩
                  rcases HGd.out with ⟨g1, g2⟩ | ⟨g1, g2⟩
                  · exact .inl ⟨by rw [heq, g2]; simp, g1⟩
                  · exact .inr ⟨by rw [heq]; simpa using g2, g1⟩
                go_wp2
                go_ret2
                exact ⟨.slice ad q cp, eq, by (first | rfl | (rw [heq]; rfl) | (rw [heq]; simp)), HZ.out.1, HZ.out.2⟩
      · have hbad : pairsR b = none := unfit (fun hf => by
          obtain ⟨_, _, h3⟩ := hf
          rw [Hnum.out, HB.out.2] at h3
          simp at h3
          omega)
        have HBad : Hid (pairsR b = none) := hbad
        have i1 : ¬ (65536 : Int) < (Xn : Int) := by omega
        have i2 : ((n : Int) != (k : Int) + 16 * (Xn : Int) + 8) = true := by simp; omega
        clear hbad hfit hnil HB Hnum
        go_enter Try.func9, Try.ntmps9
        go_wp2_with (go_at_call 20; refine hrd.mono ?_; clear hrd; rintro e w1 ⟨rfl, hw1⟩; subst hw1)
        go_ret2
        exact ⟨_, _, rfl, ReadE.nothing HBad.out, Below.refl _ _⟩
    · have HBad : Hid (pairsR b = none) := unfit (fun hf => by
        obtain ⟨_, h2, _⟩ := hf
        rw [Hnum.out] at h2
        simp at h2
        omega)
      have i1 : (65536 : Int) < (Xn : Int) := by omega
      clear hfit hnil HB Hnum
      go_enter Try.func9, Try.ntmps9
      go_wp2_with (go_at_call 20; refine hrd.mono ?_; clear hrd; rintro e w1 ⟨rfl, hw1⟩; subst hw1)
      go_ret2
      exact ⟨_, _, rfl, ReadE.nothing HBad.out, Below.refl _ _⟩
  · have HBad : Hid (pairsR b = none) := unfit (fun hf => by
      obtain ⟨h1, _⟩ := hf
      rw [Hnum.out] at h1
      exact he h1)
    have i1 : (er != 0) = true := by simpa using he
    have i2 : (er == 0) = false := by simpa using he
    clear hfit hnil HB Hnum hnb hnum
    go_enter Try.func9, Try.ntmps9
    go_wp2_with (go_at_call 20; refine hrd.mono ?_; clear hrd; rintro e w1 ⟨rfl, hw1⟩; subst hw1)
    go_ret2
    exact ⟨_, _, rfl, ReadE.nothing HBad.out, Below.refl _ _⟩
end Go.Proofs.Ytfkepoibgmljkaa
