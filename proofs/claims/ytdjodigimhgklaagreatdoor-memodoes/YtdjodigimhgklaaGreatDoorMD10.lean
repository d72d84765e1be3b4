import Derived.Test.YtdjodigimhgklaaGreatDoorMD09
import Derived.Test.YtdjodigimhgklaaGreatDoorMD07
import Derived.Test.YtdjodigimhgklaaGreatDoorMD03
import Derived.Test.YtdjodigimhgklaaGreatDoorMD02
import Derived.Test.YtdjodigimhgklaaGreatDoorMD04
import Derived.Lib.SlBytesConst
import Derived.Lib.SliceRun
import Derived.BigQuiet
import Derived.Deep.QuietTactic
import Derived.Maps.RangeWalk
import Derived.Sort.KeysCollected
/- The walks of the document's forms: Both, Uint, Word, Text. -/
namespace Go.Proofs.YtdjodigimhgklaaGreatDoor
open Go.RowKit

/-- one byte more -/
theorem take_snoc (l : List UInt8) (k : Nat) (h : k < l.length) (z : Int) (hz : z = bt l k) : cellsOf (l.take k) ++ [Value.int .u8 z] = cellsOf (l.take (k + 1)) := by
  rw [cellsOf_snoc (l.take k) l[k] z (by rw [hz]; simp [bt, h]), List.take_succ_eq_append_getElem h]

set_option maxRecDepth 20000 in
set_option maxHeartbeats 1000000 in
theorem both_any (a b : Option Addr) (n m c d : Nat) (l k : List UInt8) (w : World) (ha : Bytes w a n l) (hb : Bytes w b m k) (hm : n + m ≤ 281474976710656) :
    Calls Tryz.prog 132 #[.slice a n c, .slice b m d] w fun e w' => e = .returned (.slice (some ⟨w.heap.size, 0, none⟩) (n + m) (n + m)) ∧
      w'.ownsRow w.heap.size 5 1 (.slice (some ⟨w.heap.size, 0, none⟩) (n + m) (n + m)) (n + m) (cellsOf (l ++ k)) ∧ w.grownBy w' none := by
  obtain ⟨i0, hi, hz0, hz1, hz2⟩ := info_parts Tryz.info5
  have hu := Tryz.underlying33
  go_enter Tryz.func132, Tryz.ntmps132
  go_wp2_with (at_make; refine wpList_make_own _ rfl _ _ 33 rfl w.heap.size 5 i0 (.int .u8 0) 1 hu hi hz0 hz1 _ _ _ (n + m) rfl rfl (by omega) (by rw [hz2]; omega) (by unfold maxLen; omega) (Nat.le_refl _) ?_; intro w1 hown1 hg1)
  have B1 : Below w.heap.size w w1 := (Below.refl _ _).grown hg1 (Nat.le_refl _) (by simp)
  go_loopw [5, 6] (fun v i wr => ∃ j : Nat, j ≤ n ∧ i = .int .i64 j ∧ v = .slice (some ⟨w.heap.size, 0, none⟩) j (n + m) ∧
      wr.ownsRow w.heap.size 5 1 (.slice (some ⟨w.heap.size, 0, none⟩) j (n + m)) j (cellsOf (l.take j)) ∧ Below w.heap.size w wr) (fun _ i _ => n - (intOf i).toNat)
  case atStart => exact ⟨0, Nat.zero_le _, rfl, rfl, by simpa [cellsOf] using hown1, B1⟩
  case round =>
    clear hown1 hg1 B1
    obtain ⟨j, hj, rfl, rfl, hown, hB⟩ := hrel
    by_cases hlt : j < n
    · obtain ⟨q, off, rfl, hc⟩ := ha.2 (by omega)
      have hcj := hc j hlt
      rw [← hB.cell (World.block_lt_of_cell? w _ hcj)] at hcj
      have hl : l.length = n := ha.1
      have HT : Hid (∀ z : Int, z = bt l j → cellsOf (l.take j) ++ [Value.int .u8 z] = cellsOf (l.take (j + 1))) := fun z hz => take_snoc l j (by omega) z hz
      clear hc hl
      go_wp2_with (at_builtin; refine wpList_push_fits _ rfl _ _ rfl w.heap.size w.heap.size j (n + m) _ rfl rfl hown (by omega) ?_; intro w2 hown2 hg2)
      rw [HT.out _ rfl] at hown2
      go_roundw
      case rel => exact ⟨j + 1, by omega, by go_num, rfl, hown2, hB.grown hg2 hB.size (by simp)⟩
      case measure => simp [intOf]; omega
    · obtain rfl : j = n := by omega
      have hown' : wr.ownsRow w.heap.size 5 1 (.slice (some ⟨w.heap.size, 0, none⟩) j (j + m)) j (cellsOf (l ++ k.take 0)) := by
        rw [List.take_of_length_le (by rw [ha.1]; omega)] at hown
        simpa using hown
      clear hown
      go_wp2_with fail
      go_loopw [5, 7] (fun v i wr2 => ∃ t : Nat, t ≤ m ∧ i = .int .i64 t ∧ v = .slice (some ⟨w.heap.size, 0, none⟩) (j + t) (j + m) ∧
        wr2.ownsRow w.heap.size 5 1 (.slice (some ⟨w.heap.size, 0, none⟩) (j + t) (j + m)) (j + t) (cellsOf (l ++ k.take t)) ∧ Below w.heap.size w wr2) (fun _ i _ => m - (intOf i).toNat)
      case atStart => exact ⟨0, Nat.zero_le _, rfl, rfl, hown', hB⟩
      case round =>
        clear hown' hB
        obtain ⟨t, ht, rfl, rfl, hown, hB⟩ := hrel
        by_cases hlt2 : t < m
        · obtain ⟨q, off, rfl, hc⟩ := hb.2 (by omega)
          have hcj := hc t hlt2
          rw [← hB.cell (World.block_lt_of_cell? w _ hcj)] at hcj
          have hl : k.length = m := hb.1
          have HT : Hid (∀ z : Int, z = bt k t → cellsOf (l ++ k.take t) ++ [Value.int .u8 z] = cellsOf (l ++ k.take (t + 1))) := by
            intro z hz
            rw [cellsOf_append, cellsOf_append, List.append_assoc, take_snoc k t (by omega) z hz]
          clear hc hl
          go_wp2_with (at_builtin; refine wpList_push_fits _ rfl _ _ rfl w.heap.size w.heap.size (j + t) (j + m) _ rfl rfl hown (by omega) ?_; intro w2 hown2 hg2)
          rw [HT.out _ rfl] at hown2
          go_roundw
          case rel => exact ⟨t + 1, by omega, by go_num, rfl, hown2, hB.grown hg2 hB.size (by simp)⟩
          case measure => simp [intOf]; omega
        · obtain rfl : t = m := by omega
          go_wp2
          go_ret
          rw [List.take_of_length_le (by rw [hb.1]; omega)] at hown
          exact ⟨rfl, hown, grownBy_of_below hB⟩

set_option maxRecDepth 20000 in
set_option maxHeartbeats 1000000 in
theorem refUint_any (x : Nat) (w : World) (hx : x < 18446744073709551616) :
    Calls Tryz.prog 90 #[.int .u64 x] w fun e w' => ∃ v, e = .returned v ∧ w'.ownsRow w.heap.size 5 1 v (short x).length (cellsOf (short x)) ∧ Below w.heap.size w w' := by
  obtain ⟨S, hS⟩ : ∃ S, S = short x := ⟨_, rfl⟩
  rw [← hS]
  have HS : Hid (S = [] ++ shortF (9 - 0) x) := by rw [hS]; rfl
  have Hlen : Hid (S.length ≤ 10) := by show _ ≤ _; rw [hS]; exact short_len x
  clear hS
  go_enter Tryz.func90, Tryz.ntmps90
  go_wp2
  go_loopw [0, 3] (fun z v wr => ∃ (k y m : Nat) (d : List UInt8), k ≤ 9 ∧ m = d.length ∧ Hid (y * 128 ^ k < 18446744073709551616) ∧ Hid (S = d ++ shortF (9 - k) y) ∧ z = .int .u64 y ∧
      wr.ownsRow w.heap.size 5 1 v m (cellsOf d) ∧ Below w.heap.size w wr) (fun z _ _ => (intOf z).toNat)
  case atStart => exact ⟨0, x, 0, [], by omega, rfl, by show _ < _; omega, HS, rfl, World.ownsRow_nil _ _ _ _, Below.refl _ _⟩
  case round =>
    clear HS
    obtain ⟨k, y, m, d, hk, hm, HY, HS, rfl, hown, hB⟩ := hrel
    have Hm : Hid (m = d.length) := hm
    have hm10 : m ≤ 10 := by
      have h1 := HS.out; have h2 := Hlen.out
      rw [h1, List.length_append] at h2
      omega
    clear hm
    by_cases hy : 128 ≤ y
    · have hk8 : k ≤ 8 := by
        by_cases h9 : k = 9
        · subst h9; have := HY.out; omega
        · omega
      have hsl := shortF_high (8 - k) y (by omega)
      rw [show 8 - k + 1 = 9 - k from by omega] at hsl
      have HL : Hid (shortF (9 - k) y = UInt8.ofNat (y % 128 + 128) :: shortF (8 - k) (y / 128)) := hsl
      clear hsl
      have hyu : (y : Int) ≤ 18446744073709551615 := by
        have h1 := HY.out
        have h2 : y ≤ y * 128 ^ k := Nat.le_mul_of_pos_right y (Nat.pow_pos (by omega))
        omega
      go_wp2_with (at_builtin; refine wpList_push_own _ rfl _ _ rfl w.heap.size m _ _ rfl rfl hown (by omega) hB.size ?_; intro v1 w1 hown1 hb1)
      rw [cellsOf_snoc d (UInt8.ofNat (y % 128 + 128)) _ (by rw [UInt8.toNat_ofNat']; omega)] at hown1
      go_roundw
      case rel =>
        refine ⟨k + 1, y / 128, m + 1, d ++ [UInt8.ofNat (y % 128 + 128)], by omega, by have := Hm.out; simp; omega, ?_, ?_, by go_num, hown1, hB.trans hb1⟩
        · have h1 := HY.out
          have h2 : y / 128 * 128 ^ (k + 1) ≤ y * 128 ^ k := by
            rw [Nat.pow_succ, Nat.mul_comm (128 ^ k) 128, ← Nat.mul_assoc]
            exact Nat.mul_le_mul_right _ (Nat.div_mul_le_self y 128)
          show _ < _
          omega
        · have h1 := HS.out
          rw [HL.out] at h1
          show S = _
          rw [h1, show 9 - (k + 1) = 8 - k from by omega]
          simp
      case measure => simp [intOf]; omega
    · have hsl := shortF_low (9 - k) y (by omega)
      have HL : Hid (S = d ++ [UInt8.ofNat y]) := by have := HS.out; rw [hsl] at this; exact this
      clear hsl
      go_wp2_with (at_builtin; refine wpList_push_own _ rfl _ _ rfl w.heap.size m _ _ rfl rfl hown (by omega) hB.size ?_; intro v1 w1 hown1 hb1)
      rw [cellsOf_snoc d (UInt8.ofNat y) _ (by rw [← low8]; omega)] at hown1
      go_ret
      have e1 : m + 1 = S.length := by have h1 := HL.out; have h2 := Hm.out; rw [h1]; simp; omega
      rw [← HL.out, e1] at hown1
      exact ⟨_, rfl, hown1, hB.trans hb1⟩

set_option maxRecDepth 20000 in
set_option maxHeartbeats 1000000 in
theorem refText_any (s : ByteArray) (w : World) (hs : s.size ≤ 140737488351232) :
    Calls Tryz.prog 133 #[.string s] w fun e w' => ∃ v, e = .returned v ∧ w'.ownsRow w.heap.size 5 1 v ((short s.size).length + s.size) (cellsOf (short s.size ++ s.data.toList)) ∧ Below w.heap.size w w' := by
  have hs10 := short_len s.size
  have HB : Hid (∀ k, (hk : k < s.size) → (s[k].toNat : Int) = bt s.data.toList k) := fun k hk => str_bt s k hk
  have hl : s.data.toList.length = s.size := by simp
  obtain ⟨S, hS⟩ : ∃ S, S = short s.size := ⟨_, rfl⟩
  obtain ⟨l, hL⟩ : ∃ l, l = s.data.toList := ⟨_, rfl⟩
  have HS : Hid (S = short s.size) := hS
  rw [← hL] at HB hl ⊢
  rw [← hS] at hs10 ⊢
  have Hl : Hid (l.length = s.size) := hl
  clear hl hS hL
  go_enter Tryz.func133, Tryz.ntmps133
  go_wp2_with fail
  refine (refUint_any s.size w (by omega)).mono ?_
  rintro e w1 ⟨v, rfl, hown, hB⟩
  rw [← HS.out] at hown
  go_wp2_with fail
  go_loopw [3, 4] (fun v i wr => ∃ t : Nat, t ≤ s.size ∧ i = .int .i64 t ∧ wr.ownsRow w.heap.size 5 1 v (S.length + t) (cellsOf (S ++ l.take t)) ∧ Below w.heap.size w wr) (fun _ i _ => s.size - (intOf i).toNat)
  case atStart => exact ⟨0, Nat.zero_le _, rfl, by simpa using hown, hB⟩
  case round =>
    clear hown hB
    obtain ⟨t, ht, rfl, hown, hB⟩ := hrel
    by_cases hlt : t < s.size
    · have hbk := HB.out t hlt
      have HT : Hid (∀ z : Int, z = (s[t].toNat : Int) → cellsOf (S ++ l.take t) ++ [Value.int .u8 z] = cellsOf (S ++ l.take (t + 1))) := by
        intro z hz
        rw [cellsOf_append, cellsOf_append, List.append_assoc, take_snoc l t (by rw [Hl.out]; exact hlt) z (by rw [hz, hbk])]
      clear hbk
      go_wp2_with (at_builtin; refine wpList_push_own _ rfl _ _ rfl w.heap.size (S.length + t) _ _ rfl rfl hown (by omega) hB.size ?_; intro v1 w2 hown2 hb2)
      rw [HT.out _ rfl] at hown2
      go_roundw
      case rel => exact ⟨t + 1, by omega, by go_num, hown2, hB.trans hb2⟩
      case measure => simp [intOf]; omega
    · obtain rfl : t = s.size := by omega
      go_wp2
      go_ret
      rw [List.take_of_length_le (by rw [Hl.out]; omega)] at hown
      exact ⟨_, rfl, hown, hB⟩

/-- the row of eight cells behind k rounds -/
structure WideRow (w : World) (H x k : Nat) : Prop where
  cell : ∀ j, j < 8 → w.cell? ⟨H, j, none⟩ = some (.int .u8 (wideCell x k j))
  free : ∀ j, j < 8 → w.frozen? ⟨H, j, none⟩ = false

theorem WideRow.step {w : World} {H x k j : Nat} (h : WideRow w H x k) (hj : j + k = 7) (v : Int) (hv : v = ((x / 256 ^ k % 256 : Nat) : Int)) : WideRow (w.setCell ⟨H, j, none⟩ (.int .u8 v)) H x (k + 1) := by
  subst hv
  refine ⟨fun i hi => ?_, fun i hi => by rw [World.frozen?_setCell]; exact h.free i hi⟩
  by_cases hij : i = j
  · subst hij
    rw [wideCell_new x k i hj]
    exact World.cell?_setCell_same _ _ _ (h.cell i hi)
  · rw [World.cell?_setCell_other _ _ _ _ (fun e => hij (by injection e with _ e2; exact e2.symm)), wideCell_old x k j hj i hij]
    exact h.cell i hi

theorem WideRow.bytes {w : World} {H x : Nat} (h : WideRow w H x 8) : Bytes w (some ⟨H, 0, none⟩) 8 (wide x) := by
  refine ⟨wideTo_len x 8, fun _ => ⟨H, 0, rfl, fun i hi => ?_⟩⟩
  rw [Nat.zero_add, h.cell i hi]
  unfold wide
  rw [wideTo_bt x i 8 hi]
  unfold wideCell
  rw [if_pos (by omega)]

set_option maxRecDepth 20000 in
set_option maxHeartbeats 1000000 in
theorem refWord_any (x : Nat) (w : World) (hx : x < 18446744073709551616) :
    Calls Tryz.prog 92 #[.int .u64 x] w fun e w' => e = .returned (.slice (some ⟨w.heap.size, 0, none⟩) 8 8) ∧ Bytes w' (some ⟨w.heap.size, 0, none⟩) 8 (wide x) ∧ Below w.heap.size w w' := by
  obtain ⟨i0, hi, hz0, hz1, hz2⟩ := info_parts Tryz.info5
  have hu := Tryz.underlying33
  go_enter Tryz.func92, Tryz.ntmps92
  go_wp2_with (at_make; refine wpList_make_part _ rfl _ _ 33 rfl 5 i0 (.int .u8 0) hu hi hz0 hz1 hz2 _ _ 8 8 _ _ rfl rfl rfl rfl (by omega) (by omega) ?_; intro w1 hg1 hb1)
  go_loopw [0, 4] (fun z i wr => ∃ k : Nat, k ≤ 8 ∧ i = .int .i64 (7 - (k : Int)) ∧ z = .int .u64 (x / 256 ^ k : Nat) ∧ WideRow wr w.heap.size x k ∧ Below w.heap.size w wr) (fun _ i _ => (intOf i + 1).toNat)
  case atStart =>
    refine ⟨0, Nat.zero_le _, rfl, by simp, ⟨fun j hj => ?_, fun j hj => (made_cell _ _ _ hg1.out j hj).2⟩, hb1⟩
    rw [(made_cell _ _ _ hg1.out j hj).1]
    unfold wideCell
    rw [if_neg (by omega)]
  case round =>
    clear hg1 hb1
    obtain ⟨k, hk, rfl, rfl, HR, hB⟩ := hrel
    by_cases hlt : k < 8
    · obtain ⟨j, hj⟩ : ∃ j : Nat, j + k = 7 := ⟨7 - k, by omega⟩
      rw [show (7 - (k : Int)) = (j : Int) from by omega]
      have hcj := HR.cell j (by omega)
      have hfj := HR.free j (by omega)
      have i0 : (0 : Int) ≤ (j : Int) := by omega
      have i1 : (j : Int) < 8 := by omega
      have Hj : Hid (j + k = 7) := hj
      have HD : Hid ((x / 256 ^ k) / 256 = x / 256 ^ (k + 1)) := by show _ = _; rw [Nat.div_div_eq_div_mul, Nat.pow_succ]
      have hyx : x / 256 ^ k < 18446744073709551616 := Nat.lt_of_le_of_lt (Nat.div_le_self _ _) hx
      clear hj hx
      generalize hy : x / 256 ^ k = y at *
      have Hy : Hid (x / 256 ^ k = y) := hy
      clear hy
      go_wp2
      go_roundw
      case rel =>
        refine ⟨k + 1, by omega, by have := Hj.out; go_num, ?_, HR.step Hj.out _ (by rw [Hy.out]; omega), hB.setCell (Nat.le_refl _) _⟩
        rw [← HD.out]
        go_num
      case measure => simp [intOf]
    · obtain rfl : k = 8 := by omega
      go_wp2
      go_ret
      exact ⟨rfl, HR.bytes, hB⟩

end Go.Proofs.YtdjodigimhgklaaGreatDoor

/- A region that draws its order, in a round of a range over a function, by the laws of GRegion. Of no program. -/
namespace Go.Proofs.YtdjodigimhgklaaGreatDoor
open Go.RowKit Go.Shelf
theorem region_G_round {n : Nat} {P : Program} {id : Nat} {l : List Oper} {Q : Exit → Act → World → Prop} {S : Array Bool → World → Prop} {a : Act} {w : World} {r : Nat} (hm : P.follows .mixedOrders = true) (hd : l.all noDefer = true) (hQ : ¬ LetsOut Q)
    (h : wpAnyG P .any l.toArray Q S l.toArray.size (Array.replicate l.toArray.size false) a w.drew) : (Code.region id l.toArray true).wpIn (Fence.wide.inRound r) n P Q a w := by
  refine wpIn_region_any hm (any_round r rfl (fun i o ho => ?_) _ _ _ _ (any_wide hQ _ _ _ _ (wpAny_of_G _ _ _ _ h)))
  rw [List.all_eq_true] at hd
  refine hd o ?_
  have : l[i]? = some o := by simpa using ho
  exact List.mem_of_getElem? this
end Go.Proofs.YtdjodigimhgklaaGreatDoor

/- The walks of the disk's calls that read, and of Append. -/
namespace Go.Proofs.YtdjodigimhgklaaGreatDoor
open Go.RowKit Go.Maps

theorem ownsRow_shape {w : World} {B n : Nat} {v : Value} {xs : List Value} (h : w.ownsRow B 5 1 v n xs) : ∃ ad c, v = .slice ad n c ∧ n ≤ c ∧ (ad = none → n = 0 ∧ c = 0) := by
  rcases h.2 with ⟨rfl, rfl⟩ | ⟨g, cap, cur, rfl, _, _, hc, _⟩
  · exact ⟨none, 0, rfl, Nat.le_refl _, fun _ => ⟨rfl, rfl⟩⟩
  · exact ⟨_, _, rfl, hc, fun h => by cases h⟩

theorem ownsRow_toBytes {w : World} {B n c : Nat} {ad : Option Addr} {l : List UInt8} (h : w.ownsRow B 5 1 (.slice ad n c) n (cellsOf l)) : Bytes w ad n l ∧ ∀ x, ad = some x → B ≤ x.block ∧ x.block < w.heap.size := by
  have hll : l.length = n := by have := h.1; rw [cellsOf_length] at this; omega
  rcases h.2 with ⟨e, rfl⟩ | ⟨g, cap, cur, e, _⟩
  · cases e
    exact ⟨⟨hll, fun h0 => by omega⟩, by simp⟩
  · cases e
    refine ⟨⟨hll, fun _ => ⟨g, 0, rfl, fun i hi => ?_⟩⟩, fun x hx => ?_⟩
    · have := h.cells (g := g) rfl i _ (cellsOf_get l i (by omega))
      rw [Addr.add_lit] at this
      exact this
    · cases hx
      exact h.lt g rfl

theorem ownsRow_base {w : World} {B n : Nat} {v : Value} {xs : List Value} (h : w.ownsRow 0 5 1 v n xs) (hB : ∀ g, v.ownBlock = some g → B ≤ g) : w.ownsRow B 5 1 v n xs := by
  refine ⟨h.1, ?_⟩
  rcases h.2 with h0 | ⟨g, cap, cur, rfl, _, h2⟩
  · exact .inl h0
  · exact .inr ⟨g, cap, cur, rfl, hB g rfl, h2⟩

set_option maxHeartbeats 1000000 in
theorem clone_any (a : Option Addr) (n c : Nat) (l : List UInt8) (w : World) (hb : Bytes w a n l) (hnil : a = none → n = 0 ∧ c = 0) (hbig : n ≤ 140737488355328) :
    Calls Tryz.prog 54 #[.slice a n c] w fun e w' => ∃ a' c', e = .returned (.slice a' n c') ∧ w'.ownsRow w.heap.size 5 1 (.slice a' n c') n (cellsOf l) ∧ Below w.heap.size w w' ∧ n ≤ c' ∧ (a' = none → n = 0 ∧ c' = 0) := by
  have q22 : ∀ (w : World) (a : Option Addr) (n c n' c' : Nat), (binOp .eql 33 (.slice a n c) (.slice none n' c')).run Tryz.prog w = .ok (.bool a.isNone) w := fun w a n c n' c' => Lib.run_eql_slice_nil w _ _ a n c n' c' Tryz.underlying33
  cases a with
  | none =>
    obtain ⟨rfl, rfl⟩ := hnil rfl
    have hl : l = [] := List.eq_nil_of_length_eq_zero hb.1
    subst hl
    go_enter Tryz.func54, Tryz.ntmps54
    go_wp2
    go_ret
    exact ⟨none, 0, rfl, World.ownsRow_nil _ _ _ _, Below.refl _ _, by simp⟩
  | some a =>
    have hB0 : Below w.heap.size w (w.alloc (.cells #[] 5)) := (Below.refl _ _).alloc (Nat.le_refl _) _
    have hb0 : Bytes (w.alloc (.cells #[] 5)) (some a) n l := (Turn.of_below (fun _ => False) hB0).bytes hb (fun _ _ _ => id)
    have hr0 : (w.alloc (.cells #[] 5)).ownsRow 0 5 1 (.slice (some ⟨w.heap.size, 0, none⟩) 0 0) 0 [] := World.ownsRow_made w #[] 0 (Nat.zero_le _) (by unfold maxLen; omega) rfl
    go_enter Tryz.func54, Tryz.ntmps54
    go_wp2_with (at_builtin; refine wpList_append_row _ rfl _ _ rfl (.slice (some ⟨w.heap.size, 0, none⟩) 0 0) 0 [] rfl hr0 (some a) n c l rfl hb0 hnil (by omega) ?_; intro v' w1 hown hgrow hat; obtain ⟨a', c', rfl, hnc, hnn⟩ := ownsRow_shape hown)
    go_ret
    simp only [Nat.zero_add, List.nil_append] at *
    have hbase : ∀ g, (Value.slice a' n c').ownBlock = some g → w.heap.size ≤ g := by
      intro g hg
      rcases hat with e | e
      · rw [e] at hg; cases hg; exact Nat.le_refl _
      · rw [e] at hg; cases hg; simp
    exact ⟨a', c', rfl, ownsRow_base hown hbase, hB0.grown hgrow (by simp) (by intro k hk; cases hk; exact Nat.le_refl _), hnc, hnn⟩

/-- what the disk answers when it is asked for a file -/
def DG.err (S : DG) (l : List UInt8) : Int := if (S.f l).isSome then 0 else 4

theorem DiskAt.look {w : World} {p b : Nat} {M : DataW Value} {S : DG} {Fp : Nat → Prop} (hd : DiskAt w p b M S Fp) (s : ByteArray) (hs : s.size ≤ maxLen) (v : Value) (hv : M.atKey (.string s.data.toList) nils = .held v) :
    (Instr.lookup 83 (.map (some b)) (.string s) true).run Tryz.prog w = .ok (.tuple #[v, .bool (S.f s.data.toList).isSome]) w := by
  obtain ⟨u, ps, hrun, hu⟩ := hd.own.look_ok keyed Tryz.underlying83 (zeroSlice w) (show rv (.slice none 0 0) = some (nils, []) from rfl) (keyOfS s hs)
  rw [hv] at hu
  have := rv_inv hu
  cases this
  rw [hd.has] at hrun
  exact hrun

set_option maxHeartbeats 1000000 in
theorem file_any (p : Nat) (S : DG) (Fp : Nat → Prop) (w : World) (s : ByteArray) (hd : IsDisk w p S Fp) (hs : s.size ≤ maxLen) :
    Calls Tryz.prog 53 #[.pointer (some ⟨p, 0, none⟩), .string s] w fun e w' => ∃ a c, e = .returned (.tuple #[.slice a ((S.f s.data.toList).getD []).length c, .int .i64 (S.err s.data.toList)]) ∧ w' = w ∧
      Bytes w a ((S.f s.data.toList).getD []).length ((S.f s.data.toList).getD []) ∧ ((S.f s.data.toList).getD []).length ≤ c ∧ (a = none → ((S.f s.data.toList).getD []).length = 0 ∧ c = 0) ∧
      ∃ b M, DiskAt w p b M S Fp ∧ M.atKey (.string s.data.toList) nils = .held (.slice a ((S.f s.data.toList).getD []).length c) := by
  obtain ⟨b, M, hd⟩ := hd
  obtain ⟨v, hv, hrow, hvo⟩ := hd.value s.data.toList
  obtain ⟨a, c, rfl, hac, hnn⟩ := ownsRow_shape hrow
  have hlk := hd.look s hs _ hv
  have c0 := hd.c0
  have hby := (ownsRow_toBytes hrow).1
  have HD : Hid (DiskAt w p b M S Fp) := hd
  have HV : Hid (M.atKey (.string s.data.toList) nils = .held (.slice a ((S.f s.data.toList).getD []).length c)) := hv
  clear hd hv
  cases hf : S.f s.data.toList with
  | none =>
    rw [hf] at hlk hby hac hnn HV hrow
    simp only [Option.getD_none, List.length_nil] at hlk hby hac hnn HV hrow
    obtain ⟨rfl, rfl⟩ : a = none ∧ c = 0 := by
      rcases hrow.2 with ⟨e, _⟩ | ⟨g, cap, cur, e, _⟩
      · cases e; exact ⟨rfl, rfl⟩
      · cases e
        have := (hvo g rfl).2.2.2
        rw [hf] at this
        cases this
    go_enter Tryz.func53, Tryz.ntmps53
    go_wp2
    go_ret2
    exact ⟨none, 0, by simp [DG.err, hf], rfl, hby, by simp, b, M, HD.out, HV.out⟩
  | some bs =>
    rw [hf] at hlk hby hac hnn HV hrow
    simp only [Option.getD_some] at hlk hby hac hnn HV hrow
    go_enter Tryz.func53, Tryz.ntmps53
    go_wp2
    go_ret2
    exact ⟨a, c, by simp [DG.err, hf], rfl, hby, hac, hnn, b, M, HD.out, HV.out⟩

/-- what a file holds; nothing, where there is none -/
def DG.bs (S : DG) (l : List UInt8) : List UInt8 := (S.f l).getD []

set_option maxHeartbeats 1000000 in
theorem read_any (p : Nat) (S : DG) (Fp : Nat → Prop) (w : World) (s : ByteArray) (hd : IsDisk w p S Fp) (hs : s.size ≤ maxLen) (hbig : (S.bs s.data.toList).length ≤ 140737488355328) :
    Calls Tryz.prog 19 #[.pointer (some ⟨p, 0, none⟩), .string s] w fun e w' => ∃ a c, e = .returned (.tuple #[.slice a (S.bs s.data.toList).length c, .int .i64 (S.err s.data.toList)]) ∧
      w'.ownsRow w.heap.size 5 1 (.slice a (S.bs s.data.toList).length c) (S.bs s.data.toList).length (cellsOf (S.bs s.data.toList)) ∧ Below w.heap.size w w' ∧ (S.bs s.data.toList).length ≤ c ∧ (a = none → (S.bs s.data.toList).length = 0 ∧ c = 0) := by
  have hx := file_any p S Fp w s hd hs
  change Calls _ _ _ _ fun e w' => ∃ a c, e = .returned (.tuple #[.slice a (S.bs s.data.toList).length c, .int .i64 (S.err s.data.toList)]) ∧ w' = w ∧ Bytes w a (S.bs s.data.toList).length (S.bs s.data.toList) ∧ (S.bs s.data.toList).length ≤ c ∧ (a = none → (S.bs s.data.toList).length = 0 ∧ c = 0) ∧ _ at hx
  generalize S.bs s.data.toList = bs at *
  generalize S.err s.data.toList = er at *
  go_enter Tryz.func19, Tryz.ntmps19
  go_wp2_with fail
  refine hx.mono ?_
  rintro e w1 ⟨a, c, rfl, rfl, hb, hc, hn, _⟩
  go_wp2_with fail
  refine (clone_any a bs.length c bs _ hb hn hbig).mono ?_
  rintro e w2 ⟨a', c', rfl, hown, hB, hnc, hnn⟩
  go_wp2
  go_ret2
  exact ⟨a', c', rfl, hown, hB, hnc, hnn⟩

theorem writes_any (p : Nat) (S : DG) (Fp : Nat → Prop) (w : World) (hd : IsDisk w p S Fp) :
    Calls Tryz.prog 12 #[.pointer (some ⟨p, 0, none⟩)] w fun e w' => e = .returned (.int .i64 S.wr) ∧ w' = w := by
  obtain ⟨b, M, hd⟩ := hd
  have c1 := hd.c1
  clear hd
  go_enter Tryz.func12, Tryz.ntmps12
  go_wp2
  go_ret
  exact ⟨rfl, rfl⟩

set_option maxHeartbeats 1000000 in
/-- New: a disk without files -/
theorem new_any (w : World) : Calls Tryz.prog 9 #[] w fun e w' => e = .returned (.pointer (some ⟨w.heap.size + 1, 0, none⟩)) ∧ IsDisk w' (w.heap.size + 1) ⟨fun _ => none, 0, 0, false, 0⟩ (fun k => k = w.heap.size ∨ k = w.heap.size + 1) ∧ Below w.heap.size w w' := by
  have hmm := @run_makeMap Tryz.prog
  go_enter Tryz.func9, Tryz.ntmps9
  go_wp2
  go_ret
  refine ⟨rfl, ⟨w.heap.size, .map [], ?_⟩, ((Below.refl _ _).alloc (Nat.le_refl _) _).alloc (by simp) _⟩
  have hm := World.ownsMap_made w Tryz.prog 9 rv
  refine { c0 := by simp, c1 := by simp, c2 := by simp, c3 := by simp, f1 := by simp, f2 := by simp, f3 := by simp, hl := by simp, pb := by omega, own := hm.alloc _, sz := rfl, has := fun l => rfl, row := by simp, apart := by simp, fp := .inr rfl, fb := .inl rfl, lt := ?_ }
  rintro k (rfl | rfl) <;> simp
  omega

/-- what Append leaves, and what it answers -/
def DG.app (S : DG) (nm l : List UInt8) : DG × Int :=
  if nameB nm = false then (S, 2)
  else if l.length + (S.bs nm).length > 4194304 ∨ (S.f nm = none ∧ 256 ≤ S.n) then (S, 3)
  else if (S.f nm).isSome = true ∧ l = [] then (S, 0)
  else pieces (l.length + 1) S nm l

set_option maxRecDepth 20000 in
set_option maxHeartbeats 1000000 in
theorem append_any (p : Nat) (S : DG) (Fp : Nat → Prop) (w : World) (s : ByteArray) (a : Option Addr) (m c : Nat) (l : List UInt8) (hd : IsDisk w p S Fp) (hs : s.size ≤ maxLen)
    (hb : Bytes w a m l) (hmc : m ≤ c) (hnil : a = none → m = 0 ∧ c = 0) (ha : 0 < m → ∀ x, a = some x → ¬ Fp x.block ∧ x.block < w.heap.size) (hbs : (S.bs s.data.toList).length ≤ 4194304) (hn : S.n ≤ 256) (hw : S.wr < 4000000000000000000) (hm : m ≤ 9223372036854775807) :
    Calls Tryz.prog 20 #[.pointer (some ⟨p, 0, none⟩), .string s, .slice a m c] w fun e w' =>
      e = .returned (.int .i64 (S.app s.data.toList l).2) ∧ IsDisk w' p (S.app s.data.toList l).1 (grow Fp w w') ∧ Turn Fp w w' := by
  have hnm := name_any s w hs
  have hll := hb.1
  have HG : ∀ T : DG, IsDisk w p T Fp → IsDisk w p T (grow Fp w w) ∧ Turn Fp w w := fun T hT => ⟨grow_lt hT hd.lt (fun k hk => .inl hk) (Nat.le_refl _), Turn.refl _ _⟩
  cases hname : nameB s.data.toList with
  | false =>
    rw [hname] at hnm
    have e : S.app s.data.toList l = (S, 2) := by simp [DG.app, hname]
    rw [e]
    have hR := HG S hd
    clear HG hd
    go_enter Tryz.func20, Tryz.ntmps20
    go_wp2_with (go_at_call 55; refine hnm.mono ?_; rintro e w' ⟨rfl, rfl⟩)
    go_ret
    exact ⟨rfl, hR⟩
  | true =>
    rw [hname] at hnm
    obtain ⟨b, M, hD⟩ := hd
    obtain ⟨v, hv, hrow, hvo⟩ := hD.value s.data.toList
    obtain ⟨va, vc, rfl, hac, hnn⟩ := ownsRow_shape hrow
    have hlk := hD.look s hs _ hv
    have c0 := hD.c0
    have hsz := hD.own.len Tryz.underlying83 3
    rw [hD.sz] at hsz
    have hd : IsDisk w p S Fp := ⟨b, M, hD⟩
    have HL : Hid ((S.bs s.data.toList).length = ((S.f s.data.toList).getD []).length) := rfl
    have hpc := pieces_any p S Fp w s a m c l hd hb hmc hnil ha hs
    have hLL : ((S.f s.data.toList).getD []).length = (S.bs s.data.toList).length := rfl
    rw [hLL] at hlk hpc
    clear hv hrow hvo hac hnn hD
    generalize hL : (S.bs s.data.toList).length = L at *
    by_cases hlong : m + L > 4194304
    · have i1 : (4194304 : Int) - L < m := by omega
      have e : S.app s.data.toList l = (S, 3) := by
        unfold DG.app
        rw [if_neg (by simp [hname]), if_pos (.inl (by rw [hL]; omega))]
      rw [e]
      have hR := HG S hd
      clear HG hd hpc
      go_enter Tryz.func20, Tryz.ntmps20
      go_wp2_with (go_at_call 55; refine hnm.mono ?_; rintro e w' ⟨rfl, rfl⟩)
      go_ret
      exact ⟨rfl, hR⟩
    · have i1 : ¬ (4194304 : Int) - L < m := by omega
      have hi1 : (m : Int) ≤ 4194304 - L := by omega
      cases hf : S.f s.data.toList with
      | none =>
        rw [hf] at hlk
        simp only [Option.isSome_none] at hlk
        by_cases hfull : 256 ≤ S.n
        · have i2 : (256 : Int) ≤ (S.n : Int) := by omega
          have e : S.app s.data.toList l = (S, 3) := by
            unfold DG.app
            rw [if_neg (by simp [hname]), if_pos (.inr ⟨hf, hfull⟩)]
          rw [e]
          have hR := HG S hd
          clear HG hd hpc
          go_enter Tryz.func20, Tryz.ntmps20
          go_wp2_with (go_at_call 55; refine hnm.mono ?_; rintro e w' ⟨rfl, rfl⟩)
          go_ret
          exact ⟨rfl, hR⟩
        · have i2 : ¬ (256 : Int) ≤ (S.n : Int) := by omega
          have e : S.app s.data.toList l = pieces (m + 1) S s.data.toList l := by
            unfold DG.app
            rw [if_neg (by simp [hname]), if_neg (by rw [hL, hf]; simp; omega), if_neg (by simp [hf]), hll]
          rw [e]
          have hR := hpc (by omega) (by unfold maxLen; omega) (by omega)
          clear HG hd hpc
          go_enter Tryz.func20, Tryz.ntmps20
          go_wp2_with (first | (go_at_call 55; refine hnm.mono ?_; rintro e w' ⟨rfl, rfl⟩) | (go_at_call 56; refine hR.mono ?_; rintro e w' ⟨rfl, hR2⟩))
          go_ret
          exact ⟨rfl, hR2⟩
      | some bs =>
        rw [hf] at hlk
        simp only [Option.isSome_some] at hlk
        by_cases h0 : m = 0
        · have e : S.app s.data.toList l = (S, 0) := by
            unfold DG.app
            rw [if_neg (by simp [hname]), if_neg (by rw [hL, hf]; simp; omega), if_pos ⟨by simp [hf], List.eq_nil_of_length_eq_zero (by omega)⟩]
          rw [e]
          have hR := HG S hd
          subst h0
          clear HG hd hpc
          go_enter Tryz.func20, Tryz.ntmps20
          go_wp2_with (go_at_call 55; refine hnm.mono ?_; rintro e w' ⟨rfl, rfl⟩)
          go_ret
          exact ⟨rfl, hR⟩
        · have i2 : ¬ (m : Int) = 0 := by omega
          have e : S.app s.data.toList l = pieces (m + 1) S s.data.toList l := by
            unfold DG.app
            rw [if_neg (by simp [hname]), if_neg (by rw [hL, hf]; simp; omega), if_neg (by intro h; exact h0 (by rw [← hll, h.2]; rfl)), hll]
          rw [e]
          have hR := hpc (by omega) (by unfold maxLen; omega) (by omega)
          clear HG hd hpc
          go_enter Tryz.func20, Tryz.ntmps20
          go_wp2_with (first | (go_at_call 55; refine hnm.mono ?_; rintro e w' ⟨rfl, rfl⟩) | (go_at_call 56; refine hR.mono ?_; rintro e w' ⟨rfl, hR2⟩))
          go_ret
          exact ⟨rfl, hR2⟩

end Go.Proofs.YtdjodigimhgklaaGreatDoor

/- The walks of Cut, Mend, Copy, and of the comparison of bytes. -/
namespace Go.Proofs.YtdjodigimhgklaaGreatDoor
open Go.RowKit Go.Maps

theorem turn_fields {w : World} {p : Nat} {S : DG} {Fp : Nat → Prop} (hd : IsDisk w p S Fp) (v u : Value) : Turn Fp w ((w.setCell ⟨p, 2, none⟩ v).setCell ⟨p, 3, none⟩ u) :=
  ((turn_setCell w p 2 v).trans (turn_setCell _ p 3 u) (fun _ _ h => h)).wide (fun k hk => by subst hk; exact hd.fp)

theorem DiskAt.setCut {w : World} {p b : Nat} {M : DataW Value} {S : DG} {Fp : Nat → Prop} (h : DiskAt w p b M S Fp) (c : Bool) (n : Nat) (hn : n ≤ 9223372036854775807) :
    DiskAt ((w.setCell ⟨p, 2, none⟩ (.bool c)).setCell ⟨p, 3, none⟩ (.int .i64 n)) p b M { S with cut := c, left := n } Fp := by
  have h1 := h.field 2 (.bool c) (by decide) { S with cut := c } rfl rfl h.hl (by rw [World.cell?_setCell_other _ _ _ _ (by simp)]; exact h.c1) (World.cell?_setCell_same _ _ _ h.c2) (by rw [World.cell?_setCell_other _ _ _ _ (by simp)]; exact h.c3)
  exact h1.field 3 (.int .i64 n) (by decide) { S with cut := c, left := n } rfl rfl hn (by rw [World.cell?_setCell_other _ _ _ _ (by simp)]; exact h1.c1) (by rw [World.cell?_setCell_other _ _ _ _ (by simp)]; exact h1.c2) (World.cell?_setCell_same _ _ _ h1.c3)

set_option maxHeartbeats 1000000 in
theorem cut_any (p : Nat) (S : DG) (Fp : Nat → Prop) (w : World) (n : Nat) (hd : IsDisk w p S Fp) (hn : n ≤ 9223372036854775807) :
    Calls Tryz.prog 32 #[.pointer (some ⟨p, 0, none⟩), .int .i64 n] w fun e w' => e = .returned (.int .i64 0) ∧ IsDisk w' p { S with cut := true, left := n } Fp ∧ Turn Fp w w' := by
  have hT := turn_fields hd (.bool true) (.int .i64 n)
  obtain ⟨b, M, hd⟩ := hd
  have h2 := hd.setCut true n hn
  have c2 := hd.c2
  have c3 := hd.c3
  have f2 := hd.f2
  have f3 := hd.f3
  have i0 : ¬ (n : Int) < 0 := by omega
  clear hd
  go_enter Tryz.func32, Tryz.ntmps32
  go_wp2
  go_ret
  exact ⟨rfl, ⟨b, M, h2⟩, hT⟩

theorem cut_no (p : Nat) (w : World) (n : Int) (hn : n < 0) :
    Calls Tryz.prog 32 #[.pointer (some ⟨p, 0, none⟩), .int .i64 n] w fun e w' => e = .returned (.int .i64 2) ∧ w' = w := by
  go_enter Tryz.func32, Tryz.ntmps32
  go_wp2
  go_ret
  exact ⟨rfl, rfl⟩

set_option maxHeartbeats 1000000 in
theorem mend_any (p : Nat) (S : DG) (Fp : Nat → Prop) (w : World) (hd : IsDisk w p S Fp) :
    Calls Tryz.prog 34 #[.pointer (some ⟨p, 0, none⟩)] w fun e w' => e = .returned (.int .i64 0) ∧ IsDisk w' p { S with cut := false, left := 0 } Fp ∧ Turn Fp w w' := by
  have hT := turn_fields hd (.bool false) (.int .i64 0)
  obtain ⟨b, M, hd⟩ := hd
  have h2 := hd.setCut false 0 (by omega)
  have c2 := hd.c2
  have c3 := hd.c3
  have f2 := hd.f2
  have f3 := hd.f3
  clear hd
  go_enter Tryz.func34, Tryz.ntmps34
  go_wp2
  go_ret
  exact ⟨rfl, ⟨b, M, h2⟩, hT⟩

/-- the names of a map's files, each once -/
theorem strKeys_nodup {w : World} {b n : Nat} {M : DataW Value} (h : w.ownsMap Tryz.prog 9 rv b n M) : (strKeys M).Nodup ∧ ∀ x, x ∈ strKeys M ↔ has M (.string x) = true := by
  obtain ⟨es, hD, hpw, _⟩ := h.entries keyed
  obtain ⟨es', hD', hko⟩ := h.keysOf
  obtain rfl : es = es' := by rw [hD] at hD'; simpa using hD'
  subst hD
  have hk : ∀ q ∈ es, ∃ x, q.1 = .string x := fun q hq => by
    obtain ⟨v, hv⟩ := hko q hq
    obtain ⟨x, _, hx, _⟩ := Maps.keyOf_str Tryz.underlying9 hv
    exact ⟨x, hx⟩
  constructor
  · show (es.map fun q => strOf q.1).Nodup
    refine List.pairwise_map.2 (hpw.imp_of_mem fun {q r} hq hr hne e => hne ?_)
    obtain ⟨x, hx⟩ := hk q hq
    obtain ⟨y, hy⟩ := hk r hr
    rw [hx, hy] at e ⊢
    exact congrArg _ e
  · intro x
    rw [has_eq, List.any_eq_true]
    show x ∈ es.map (fun q => strOf q.1) ↔ _
    rw [List.mem_map]
    constructor
    · rintro ⟨q, hq, rfl⟩
      obtain ⟨y, hy⟩ := hk q hq
      exact ⟨q, hq, by rw [hy]; simp [Lit.sameKey, strOf]⟩
    · rintro ⟨q, hq, hs⟩
      obtain ⟨y, hy⟩ := hk q hq
      rw [hy] at hs
      exact ⟨q, hq, by rw [hy]; simpa [Lit.sameKey, strOf] using hs⟩
theorem strKeys_length {w : World} {b n : Nat} {M : DataW Value} (h : w.ownsMap Tryz.prog 9 rv b n M) : (strKeys M).length = size M := by
  obtain ⟨es, rfl⟩ := h.isMap
  simp [strKeys, size]
/-- two maps of files with the same names -/
theorem strKeys_same {w w' : World} {b b' n n' : Nat} {M M' : DataW Value} (h : w.ownsMap Tryz.prog 9 rv b n M) (h' : w'.ownsMap Tryz.prog 9 rv b' n' M') (hs : ∀ x, has M (.string x) = has M' (.string x)) : (strKeys M).Perm (strKeys M') := by
  obtain ⟨n1, m1⟩ := strKeys_nodup h
  obtain ⟨n2, m2⟩ := strKeys_nodup h'
  exact (List.perm_ext_iff_of_nodup n1 n2).2 fun x => by rw [m1, m2, hs]

theorem ranges_move {w w' : World} {b r n cnt : Nat} {M : DataW Value} {left : Lit → Bool} (h : w.ranges Tryz.prog 9 rv b r n M left cnt) (hb : w'.heap[b]? = w.heap[b]?) (hr : w'.heap[r]? = w.heap[r]?) : w'.ranges Tryz.prog 9 rv b r n M left cnt := by
  obtain ⟨es, clock, since, seen, c0, h1, F, h2, h3, h4, rest⟩ := h
  exact ⟨es, clock, since, seen, c0, hb.trans h1, F, h2, h3, hr.trans h4, rest⟩

theorem ownsRow_zero {w : World} {B n : Nat} {v : Value} {xs : List Value} (h : w.ownsRow B 5 1 v n xs) : w.ownsRow 0 5 1 v n xs := by
  refine ⟨h.1, ?_⟩
  rcases h.2 with h0 | ⟨g, cap, cur, rfl, _, h2⟩
  · exact .inl h0
  · exact .inr ⟨g, cap, cur, rfl, Nat.zero_le _, h2⟩

/-- a copy of a disk's files -/
def DG.copy (S : DG) : DG := ⟨S.f, S.n, 0, false, 0⟩

end Go.Proofs.YtdjodigimhgklaaGreatDoor
