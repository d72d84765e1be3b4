import Derived.Test.YtfkepoibgmljkaaB21
import Derived.Test.YtfkepoibgmljkaaB06
import Derived.Test.YtfkepoibgmljkaaB07
import Derived.Test.YtfkepoibgmljkaaB01
/- The walk of Merge. -/
namespace Go.Proofs.Ytfkepoibgmljkaa
open Go.RowKit Go.Shelf Go.Maps

attribute [local go_sem] Oper.semAt_some

/-- what Merge answers -/
def MergeE (bs : List (List UInt8)) (w : World) (v : Value) (er : Int) (w' : World) : Prop :=
  ((∃ b ∈ bs, pairsR b = none) ∧ v = .slice none 0 0 ∧ er = 8) ∨
    ∃ ls out, bs.map pairsR = ls.map some ∧ JoinR ls out ∧ PrOk out ∧ ((65536 < out.length ∧ v = .slice none 0 0 ∧ er = 3) ∨
      ∃ ad cp, out.length ≤ 65536 ∧ v = .slice ad (runB out).length cp ∧ er = 0 ∧ w'.ownsRow w.heap.size 5 1 (.slice ad (runB out).length cp) (runB out).length (cellsOf (runB out)))
def MergeA (bs : List (List UInt8)) (w : World) (e : Ending) (w' : World) : Prop := ∃ v er, e = .returned (.tuple #[v, .int .i64 er]) ∧ MergeE bs w v er w' ∧ Below w.heap.size w w'
theorem owns_baseV {W : World} {base base' n : Nat} {v : Value} {xs : List Value} (h : W.ownsRow base 5 1 v n xs) (hb : base' ≤ base) : W.ownsRow base' 5 1 v n xs := by
  refine ⟨h.1, ?_⟩
  rcases h.2 with h | ⟨g, cap, cur, rfl, hg, rest⟩
  · exact .inl h
  · exact .inr ⟨g, cap, cur, rfl, Nat.le_trans hb hg, rest⟩

set_option maxRecDepth 100000 in
set_option maxHeartbeats 4000000 in
theorem merge_any (w : World) (a : Option Addr) (n c : Nat) (bs : List (List UInt8)) (h : RunsB w a n c bs) (hn : n ≤ 1000) :
    Calls Try.prog 11 #[.slice a n c] w (MergeA bs w) := by
  have HR : Hid (RunsB w a n c bs) := h
  have hll := h.len
  have HN : Hid (bs.length = n) := hll
  clear h hll
  go_enter Try.func11, Try.ntmps11
  go_wp2_with (at_make; refine wpList_make_nils _ rfl _ _ rfl _ _ n _ _ rfl rfl (by omega) (by omega) (by omega) ?_; intro w1 hf1 hB1; have H1 : Hid (FillS w1 w.heap.size n [] ∧ Below w.heap.size w w1) := ⟨hf1, hB1⟩; clear hf1 hB1)
  go_loopw [15] (fun i wr => ∃ k : Nat, k ≤ n ∧ i = .int .i64 (k : Int) ∧ Hid (∃ L : List (Nat × List Pr), L.length = k ∧ (bs.take k).map pairsR = (L.map (·.2)).map some ∧ FillS wr w.heap.size n L ∧ Below w.heap.size w wr)) (fun i _ => n - (intOf i).toNat)
  case atStart => exact ⟨0, Nat.zero_le _, rfl, [], rfl, rfl, H1.out.1, H1.out.2⟩
  case round =>
    clear H1
    obtain ⟨k, hk, rfl, H⟩ := hrel
    obtain ⟨L, hLk, hmap, hfill, hBw⟩ := H.out
    by_cases hlt : k < n
    · obtain ⟨x, hx⟩ : ∃ x, bs[k]? = some x := ⟨_, List.getElem?_eq_getElem (by rw [HN.out]; exact hlt)⟩
      obtain ⟨b1, o1, rfl, hc1⟩ := (HR.out.kept hBw).cells (by omega)
      obtain ⟨xa, xn, xc, t1, hbx, hxnil, hxcap, hx100⟩ := hc1 k x hx
      have i2 : (k : Int) < (n : Int) := by omega
      have i3 : ¬ n ≤ k := by omega
      have hps := pairs_any wr xa xn xc x hbx hxnil hxcap hx100
      have HL : Hid (L.length = k ∧ (bs.take k).map pairsR = (L.map (·.2)).map some ∧ FillS wr w.heap.size n L ∧ Below w.heap.size w wr) := ⟨hLk, hmap, hfill, hBw⟩
      have HX : Hid (bs.take (k + 1) = bs.take k ++ [x] ∧ x ∈ bs) := ⟨by rw [List.take_add_one, hx]; rfl, List.mem_of_getElem? hx⟩
      clear hc1 hbx hxnil hLk hmap hfill hBw hx H
      go_wp2_with fail
      refine hps.mono ?_
      clear hps
      rintro e w2 ⟨v2, er2, rfl, hE, hB2⟩
      rcases hE with ⟨hno, rfl, rfl⟩ | ⟨l, G, hsm, rfl, rfl, hG, hrow⟩
      · have HZ : Hid (MergeE bs w (.slice none 0 0) 8 w2 ∧ Below w.heap.size w w2) := ⟨.inl ⟨⟨x, HX.out.2, hno⟩, rfl, rfl⟩, HL.out.2.2.2.trans (hB2.mono HL.out.2.2.2.size)⟩
        clear hno hB2
        go_wp2
        go_ret2
        exact ⟨_, _, rfl, HZ.out.1, HZ.out.2⟩
      · have hf2 : FillS w2 w.heap.size n L := HL.out.2.2.1.below hB2
        obtain ⟨c1, f1⟩ := hf2.cell (by rw [HL.out.1]; exact hlt)
        have hf3 := hf2.put (by rw [HL.out.1]; exact hlt) (g := G) (l := l) (by have := (Array.getElem?_eq_some_iff.1 HL.out.2.2.1.1).1; omega) hrow
        rw [HL.out.1] at c1 f1 hf3
        have HZ : Hid (∃ L : List (Nat × List Pr), L.length = k + 1 ∧ (bs.take (k + 1)).map pairsR = (L.map (·.2)).map some ∧ FillS (w2.setCell ⟨w.heap.size, k, none⟩ (.slice (some ⟨G, 0, none⟩) l.length l.length)) w.heap.size n L ∧ Below w.heap.size w (w2.setCell ⟨w.heap.size, k, none⟩ (.slice (some ⟨G, 0, none⟩) l.length l.length))) := by
          refine ⟨L ++ [(G, l)], by simp [HL.out.1], ?_, hf3, (HL.out.2.2.2.trans (hB2.mono HL.out.2.2.2.size)).setCell (p := ⟨w.heap.size, k, none⟩) (Nat.le_refl _) _⟩
          rw [HX.out.1, List.map_append, HL.out.2.1, List.map_append, List.map_append]
          simp [hsm]
        obtain ⟨ln, hln⟩ : ∃ ln, ln = l.length := ⟨_, rfl⟩
        rw [← hln] at HZ ⊢
        clear hf2 hf3 hrow hsm hG hB2 HL HX hln
        go_wp2
        go_roundw
        case rel => exact ⟨k + 1, by omega, by go_num, HZ.out⟩
        case measure => simp [intOf]; omega
    · obtain rfl : k = n := by omega
      have hbt : bs.take k = bs := List.take_of_length_le (by rw [HN.out]; exact Nat.le_refl _)
      rw [hbt] at hmap
      have hgood : ∀ l ∈ L.map (·.2), GoodV l := fun l hl => by
        have h1 : some l ∈ (L.map (·.2)).map some := List.mem_map.2 ⟨l, hl, rfl⟩
        rw [← hmap] at h1
        obtain ⟨b, _, hb⟩ := List.mem_map.1 h1
        exact (pairs_good hb).1
      have hfl := flat_len (L.map (·.2)) fun l hl => (hgood l hl).len
      rw [List.length_map, hLk] at hfl
      have hj := join_any k wr (some ⟨w.heap.size, 0, none⟩) k k (L.map (·.2)) (Nat.le_refl _) (by omega) (hfill.lists hLk) (fun l hl => ((risF_iff l 0).1 (hgood l hl).ris).1) (by omega)
      have HL : Hid (bs.map pairsR = (L.map (·.2)).map some ∧ Below w.heap.size w wr ∧ (∀ l ∈ L.map (·.2), PrOk l) ∧ (L.map (·.2)).flatten.length ≤ 65536 * k) := ⟨hmap, hBw, fun l hl => (hgood l hl).ok, hfl⟩
      clear hmap hfill hBw hbt hgood hfl hLk H
      go_upto_region 11 with (go_at_call 23; refine hj.mono ?_; clear hj; rintro e w3 ⟨ja, jn, jc, out, rfl, hpv, hjr, hB3⟩; have H3 : Hid (PrV w3 ja jn jc out ∧ JoinR (L.map (·.2)) out ∧ Below w.heap.size w w3) := ⟨hpv, hjr, HL.out.2.1.trans (hB3.mono HL.out.2.1.size)⟩; clear hpv hjr hB3)
      have hol := H3.out.1.prs.1
      have hok : PrOk out := H3.out.2.1.ok HL.out.2.2.1
      have hjl : jn ≤ 65536 * k := by have := H3.out.2.1.len; have := HL.out.2.2.2; omega
      by_cases hbig : 65536 < jn
      · have i5 : (65536 : Int) < (jn : Int) := by omega
        have HZ : Hid (MergeE bs w (.slice none 0 0) 3 w3 ∧ Below w.heap.size w w3) := ⟨.inr ⟨_, out, HL.out.1, H3.out.2.1, hok, .inl ⟨by omega, rfl, rfl⟩⟩, H3.out.2.2⟩
        clear hol hok
        go_wp2
        go_ret2
        exact ⟨_, _, rfl, HZ.out.1, HZ.out.2⟩
      · have i5 : ¬ (65536 : Int) < (jn : Int) := by omega
        have hfm := vform_any w3 ja jn jc out H3.out.1.prs hok (by omega)
        have HO : Hid (PrOk out ∧ out.length = jn) := ⟨hok, hol⟩
        clear hol hok
        go_wp2_with fail
        refine hfm.mono ?_
        clear hfm
        rintro e w4 ⟨fa, fc, rfl, hown, hB4⟩
        have HZ : Hid (MergeE bs w (.slice fa (runB out).length fc) 0 w4 ∧ Below w.heap.size w w4) := ⟨.inr ⟨_, out, HL.out.1, H3.out.2.1, HO.out.1, .inr ⟨fa, fc, by rw [HO.out.2]; omega, rfl, rfl, owns_baseV hown H3.out.2.2.size⟩⟩, H3.out.2.2.trans (hB4.mono H3.out.2.2.size)⟩
        clear hown hB4
        go_wp2
        go_ret2
        exact ⟨_, _, rfl, HZ.out.1, HZ.out.2⟩
end Go.Proofs.Ytfkepoibgmljkaa

/- A cell of a row of bytes just made. -/
namespace Go.Proofs.Ytfkepoibgmljkaa
open Go.RowKit

theorem made_cell (H n : Nat) (w : World) (hg : w.heap[H]? = some (.cells (madeCells #[Value.int .u8 0] n) 5 (0, 0))) (j : Nat) (h : j < n) : w.cell? ⟨H, j, none⟩ = some (.int .u8 0) ∧ w.frozen? ⟨H, j, none⟩ = false := by
  constructor
  · rw [cell_of_row w H j _ _ _ hg]
    simp [madeCells, h, Nat.mod_one]
  · simp [World.frozen?, hg]

theorem str_bt (s : ByteArray) (k : Nat) (h : k < s.size) : (s[k].toNat : Int) = bt s.data.toList k := by
  unfold bt
  rw [List.getD_eq_getElem?_getD, List.getElem?_eq_getElem (by simpa using h)]
  rfl

end Go.Proofs.Ytfkepoibgmljkaa

/- The walks of the document's forms: Both, Uint, Word, Text. -/
namespace Go.Proofs.Ytfkepoibgmljkaa
open Go.RowKit

/-- one byte more -/
theorem take_snoc (l : List UInt8) (k : Nat) (h : k < l.length) (z : Int) (hz : z = bt l k) : cellsOf (l.take k) ++ [Value.int .u8 z] = cellsOf (l.take (k + 1)) := by
  rw [cellsOf_snoc (l.take k) l[k] z (by rw [hz]; simp [bt, h]), List.take_succ_eq_append_getElem h]

set_option maxRecDepth 20000 in
set_option maxHeartbeats 1000000 in
theorem refUint_any (x : Nat) (w : World) (hx : x < 18446744073709551616) :
    Calls Try.prog 17 #[.int .u64 x] w fun e w' => ∃ v, e = .returned v ∧ w'.ownsRow w.heap.size 5 1 v (short x).length (cellsOf (short x)) ∧ Below w.heap.size w w' := by
  obtain ⟨S, hS⟩ : ∃ S, S = short x := ⟨_, rfl⟩
  rw [← hS]
  have HS : Hid (S = [] ++ shortF (9 - 0) x) := by rw [hS]; rfl
  have Hlen : Hid (S.length ≤ 10) := by show _ ≤ _; rw [hS]; exact short_len x
  clear hS
  go_enter Try.func17, Try.ntmps17
  go_wp2
  go_loopw [0, 3] (fun z v wr => ∃ (k y m : Nat) (d : List UInt8), k ≤ 9 ∧ m = d.length ∧ Hid (y * 128 ^ k < 18446744073709551616) ∧ Hid (S = d ++ shortF (9 - k) y) ∧ z = .int .u64 y ∧
      wr.ownsRow w.heap.size 5 1 v m (cellsOf d) ∧ Below w.heap.size w wr) (fun z _ _ => (intOf z).toNat)
  case atStart => exact ⟨0, x, 0, [], by omega, rfl, by show _ < _; omega, HS, rfl, World.ownsRow_nil _ _ _ _, Below.refl _ _⟩
  case round =>
    clear HS
    obtain ⟨k, y, m, d, hk, hm, HY, HS, rfl, hown, hB⟩ := hrel
    have Hm : Hid (m = d.length) := hm
    have hm10 : m ≤ 10 := by
      have h1 := HS.out; have h2 := Hlen.out
      rw [h1, List.length_append] at h2
      omega
    clear hm
    by_cases hy : 128 ≤ y
    · have hk8 : k ≤ 8 := by
        by_cases h9 : k = 9
        · subst h9; have := HY.out; omega
        · omega
      have hsl := shortF_high (8 - k) y (by omega)
      rw [show 8 - k + 1 = 9 - k from by omega] at hsl
      have HL : Hid (shortF (9 - k) y = UInt8.ofNat (y % 128 + 128) :: shortF (8 - k) (y / 128)) := hsl
      clear hsl
      have hyu : (y : Int) ≤ 18446744073709551615 := by
        have h1 := HY.out
        have h2 : y ≤ y * 128 ^ k := Nat.le_mul_of_pos_right y (Nat.pow_pos (by omega))
        omega
      go_wp2_with (at_builtin; refine wpList_push_own _ rfl _ _ rfl w.heap.size m _ _ rfl rfl hown (by omega) hB.size ?_; intro v1 w1 hown1 hb1)
      rw [cellsOf_snoc d (UInt8.ofNat (y % 128 + 128)) _ (by rw [UInt8.toNat_ofNat']; omega)] at hown1
      go_roundw
      case rel =>
        refine ⟨k + 1, y / 128, m + 1, d ++ [UInt8.ofNat (y % 128 + 128)], by omega, by have := Hm.out; simp; omega, ?_, ?_, by go_num, hown1, hB.trans hb1⟩
        · have h1 := HY.out
          have h2 : y / 128 * 128 ^ (k + 1) ≤ y * 128 ^ k := by
            rw [Nat.pow_succ, Nat.mul_comm (128 ^ k) 128, ← Nat.mul_assoc]
            exact Nat.mul_le_mul_right _ (Nat.div_mul_le_self y 128)
          show _ < _
          omega
        · have h1 := HS.out
          rw [HL.out] at h1
          show S = _
          rw [h1, show 9 - (k + 1) = 8 - k from by omega]
          simp
      case measure => simp [intOf]; omega
    · have hsl := shortF_low (9 - k) y (by omega)
      have HL : Hid (S = d ++ [UInt8.ofNat y]) := by have := HS.out; rw [hsl] at this; exact this
      clear hsl
      go_wp2_with (at_builtin; refine wpList_push_own _ rfl _ _ rfl w.heap.size m _ _ rfl rfl hown (by omega) hB.size ?_; intro v1 w1 hown1 hb1)
      rw [cellsOf_snoc d (UInt8.ofNat y) _ (by rw [← low8]; omega)] at hown1
      go_ret
      have e1 : m + 1 = S.length := by have h1 := HL.out; have h2 := Hm.out; rw [h1]; simp; omega
      rw [← HL.out, e1] at hown1
      exact ⟨_, rfl, hown1, hB.trans hb1⟩

/-- the row of eight cells behind k rounds -/
structure WideRow (w : World) (H x k : Nat) : Prop where
  cell : ∀ j, j < 8 → w.cell? ⟨H, j, none⟩ = some (.int .u8 (wideCell x k j))
  free : ∀ j, j < 8 → w.frozen? ⟨H, j, none⟩ = false

theorem WideRow.step {w : World} {H x k j : Nat} (h : WideRow w H x k) (hj : j + k = 7) (v : Int) (hv : v = ((x / 256 ^ k % 256 : Nat) : Int)) : WideRow (w.setCell ⟨H, j, none⟩ (.int .u8 v)) H x (k + 1) := by
  subst hv
  refine ⟨fun i hi => ?_, fun i hi => by rw [World.frozen?_setCell]; exact h.free i hi⟩
  by_cases hij : i = j
  · subst hij
    rw [wideCell_new x k i hj]
    exact World.cell?_setCell_same _ _ _ (h.cell i hi)
  · rw [World.cell?_setCell_other _ _ _ _ (fun e => hij (by injection e with _ e2; exact e2.symm)), wideCell_old x k j hj i hij]
    exact h.cell i hi

theorem WideRow.bytes {w : World} {H x : Nat} (h : WideRow w H x 8) : Bytes w (some ⟨H, 0, none⟩) 8 (wide x) := by
  refine ⟨wideTo_len x 8, fun _ => ⟨H, 0, rfl, fun i hi => ?_⟩⟩
  rw [Nat.zero_add, h.cell i hi]
  unfold wide
  rw [wideTo_bt x i 8 hi]
  unfold wideCell
  rw [if_pos (by omega)]

set_option maxRecDepth 20000 in
set_option maxHeartbeats 1000000 in
theorem refWord_any (x : Nat) (w : World) (hx : x < 18446744073709551616) :
    Calls Try.prog 18 #[.int .u64 x] w fun e w' => e = .returned (.slice (some ⟨w.heap.size, 0, none⟩) 8 8) ∧ Bytes w' (some ⟨w.heap.size, 0, none⟩) 8 (wide x) ∧ Below w.heap.size w w' := by
  obtain ⟨i0, hi, hz0, hz1, hz2⟩ := info_parts Try.info5
  have hu := Try.underlying23
  go_enter Try.func18, Try.ntmps18
  go_wp2_with (at_make; refine wpList_make_part _ rfl _ _ 23 rfl 5 i0 (.int .u8 0) hu hi hz0 hz1 hz2 _ _ 8 8 _ _ rfl rfl rfl rfl (by omega) (by omega) ?_; intro w1 hg1 hb1)
  go_loopw [0, 4] (fun z i wr => ∃ k : Nat, k ≤ 8 ∧ i = .int .i64 (7 - (k : Int)) ∧ z = .int .u64 (x / 256 ^ k : Nat) ∧ WideRow wr w.heap.size x k ∧ Below w.heap.size w wr) (fun _ i _ => (intOf i + 1).toNat)
  case atStart =>
    refine ⟨0, Nat.zero_le _, rfl, by simp, ⟨fun j hj => ?_, fun j hj => (made_cell _ _ _ hg1.out j hj).2⟩, hb1⟩
    rw [(made_cell _ _ _ hg1.out j hj).1]
    unfold wideCell
    rw [if_neg (by omega)]
  case round =>
    clear hg1 hb1
    obtain ⟨k, hk, rfl, rfl, HR, hB⟩ := hrel
    by_cases hlt : k < 8
    · obtain ⟨j, hj⟩ : ∃ j : Nat, j + k = 7 := ⟨7 - k, by omega⟩
      rw [show (7 - (k : Int)) = (j : Int) from by omega]
      have hcj := HR.cell j (by omega)
      have hfj := HR.free j (by omega)
      have i0 : (0 : Int) ≤ (j : Int) := by omega
      have i1 : (j : Int) < 8 := by omega
      have Hj : Hid (j + k = 7) := hj
      have HD : Hid ((x / 256 ^ k) / 256 = x / 256 ^ (k + 1)) := by show _ = _; rw [Nat.div_div_eq_div_mul, Nat.pow_succ]
      have hyx : x / 256 ^ k < 18446744073709551616 := Nat.lt_of_le_of_lt (Nat.div_le_self _ _) hx
      clear hj hx
      generalize hy : x / 256 ^ k = y at *
      have Hy : Hid (x / 256 ^ k = y) := hy
      clear hy
      go_wp2
      go_roundw
      case rel =>
        refine ⟨k + 1, by omega, by have := Hj.out; go_num, ?_, HR.step Hj.out _ (by rw [Hy.out]; omega), hB.setCell (Nat.le_refl _) _⟩
        rw [← HD.out]
        go_num
      case measure => simp [intOf]
    · obtain rfl : k = 8 := by omega
      go_wp2
      go_ret
      exact ⟨rfl, HR.bytes, hB⟩

end Go.Proofs.Ytfkepoibgmljkaa

/- The walk of the document's Hash: it answers the same function of the bytes as the program's. -/
namespace Go.Proofs.Ytfkepoibgmljkaa
open Go.RowKit

set_option maxHeartbeats 400000 in
theorem refHash_any (a : Option Addr) (n cap : Nat) (l : List UInt8) (w : World) (hb : Bytes w a n l) (hm : n ≤ maxLen) :
    Calls Try.prog 19 #[.slice a n cap] w fun e w' => e = .returned (.int .u64 (hashTo l n)) ∧ w' = w := by
  unfold maxLen at hm
  obtain ⟨hl, hc⟩ := hb
  go_enter Try.func19, Try.ntmps19
  go_wp2
  go_loop [3, 4] (fun h i => ∃ k : Nat, k ≤ n ∧ i = .int .i64 k ∧ h = .int .u64 (hashTo l k)) (fun _ i => n - (intOf i).toNat)
  case atStart => exact ⟨0, Nat.zero_le _, rfl, rfl⟩
  case round =>
    obtain ⟨k, hk, rfl, rfl⟩ := hrel
    by_cases hlt : k < n
    · obtain ⟨b, off, rfl, hcell⟩ := hc (by omega)
      have hck := hcell k hlt
      have b0 := bt_lo l k
      have b1 := bt_hi l k
      have h0 := hashTo_lo l k
      have h1 := hashTo_hi l k
      clear hcell hc
      go_wp2
      go_round
      case rel => exact ⟨k + 1, by omega, by go_num, by rw [hashTo_succ]⟩
      case measure => simp [intOf]; omega
    · go_wp2
      go_ret
      obtain rfl : k = n := by omega
      exact ⟨rfl, rfl⟩
end Go.Proofs.Ytfkepoibgmljkaa
