import Derived.Test.YthalpnpnbclipaaGreatL07
/- The walks of the document's forms: Both, Uint, Word, Text. -/
namespace Go.Proofs.YthalpnpnbclipaaGreat
open Go.RowKit

/-- one byte more -/
theorem take_snoc (l : List UInt8) (k : Nat) (h : k < l.length) (z : Int) (hz : z = bt l k) : cellsOf (l.take k) ++ [Value.int .u8 z] = cellsOf (l.take (k + 1)) := by
  rw [cellsOf_snoc (l.take k) l[k] z (by rw [hz]; simp [bt, h]), List.take_succ_eq_append_getElem h]

set_option maxRecDepth 20000 in
set_option maxHeartbeats 1000000 in
theorem both_any (a b : Option Addr) (n m c d : Nat) (l k : List UInt8) (w : World) (ha : Bytes w a n l) (hb : Bytes w b m k) (hm : n + m ≤ 281474976710656) :
    Calls Tryz.prog 49 #[.slice a n c, .slice b m d] w fun e w' => e = .returned (.slice (some ⟨w.heap.size, 0, none⟩) (n + m) (n + m)) ∧
      w'.ownsRow w.heap.size 5 1 (.slice (some ⟨w.heap.size, 0, none⟩) (n + m) (n + m)) (n + m) (cellsOf (l ++ k)) ∧ w.grownBy w' none := by
  obtain ⟨i0, hi, hz0, hz1, hz2⟩ := info_parts Tryz.info5
  have hu := Tryz.underlying36
  go_enter Tryz.func49, Tryz.ntmps49
  go_wp2_with (at_make; refine wpList_make_own _ rfl _ _ 36 rfl w.heap.size 5 i0 (.int .u8 0) 1 hu hi hz0 hz1 _ _ _ (n + m) rfl rfl (by omega) (by rw [hz2]; omega) (by unfold maxLen; omega) (Nat.le_refl _) ?_; intro w1 hown1 hg1)
  have B1 : Below w.heap.size w w1 := (Below.refl _ _).grown hg1 (Nat.le_refl _) (by simp)
  go_loopw [5, 6] (fun v i wr => ∃ j : Nat, j ≤ n ∧ i = .int .i64 j ∧ v = .slice (some ⟨w.heap.size, 0, none⟩) j (n + m) ∧
      wr.ownsRow w.heap.size 5 1 (.slice (some ⟨w.heap.size, 0, none⟩) j (n + m)) j (cellsOf (l.take j)) ∧ Below w.heap.size w wr) (fun _ i _ => n - (intOf i).toNat)
  case atStart => exact ⟨0, Nat.zero_le _, rfl, rfl, by simpa [cellsOf] using hown1, B1⟩
  case round =>
    clear hown1 hg1 B1
    obtain ⟨j, hj, rfl, rfl, hown, hB⟩ := hrel
    by_cases hlt : j < n
    · obtain ⟨q, off, rfl, hc⟩ := ha.2 (by omega)
      have hcj := hc j hlt
      rw [← hB.cell (World.block_lt_of_cell? w _ hcj)] at hcj
      have hl : l.length = n := ha.1
      have HT : Hid (∀ z : Int, z = bt l j → cellsOf (l.take j) ++ [Value.int .u8 z] = cellsOf (l.take (j + 1))) := fun z hz => take_snoc l j (by omega) z hz
      clear hc hl
      go_wp2_with (at_builtin; refine wpList_push_fits _ rfl _ _ rfl w.heap.size w.heap.size j (n + m) _ rfl rfl hown (by omega) ?_; intro w2 hown2 hg2)
      rw [HT.out _ rfl] at hown2
      go_roundw
      case rel => exact ⟨j + 1, by omega, by go_num, rfl, hown2, hB.grown hg2 hB.size (by simp)⟩
      case measure => simp [intOf]; omega
    · obtain rfl : j = n := by omega
      have hown' : wr.ownsRow w.heap.size 5 1 (.slice (some ⟨w.heap.size, 0, none⟩) j (j + m)) j (cellsOf (l ++ k.take 0)) := by
        rw [List.take_of_length_le (by rw [ha.1]; omega)] at hown
        simpa using hown
      clear hown
      go_wp2_with fail
      go_loopw [5, 7] (fun v i wr2 => ∃ t : Nat, t ≤ m ∧ i = .int .i64 t ∧ v = .slice (some ⟨w.heap.size, 0, none⟩) (j + t) (j + m) ∧
        wr2.ownsRow w.heap.size 5 1 (.slice (some ⟨w.heap.size, 0, none⟩) (j + t) (j + m)) (j + t) (cellsOf (l ++ k.take t)) ∧ Below w.heap.size w wr2) (fun _ i _ => m - (intOf i).toNat)
      case atStart => exact ⟨0, Nat.zero_le _, rfl, rfl, hown', hB⟩
      case round =>
        clear hown' hB
        obtain ⟨t, ht, rfl, rfl, hown, hB⟩ := hrel
        by_cases hlt2 : t < m
        · obtain ⟨q, off, rfl, hc⟩ := hb.2 (by omega)
          have hcj := hc t hlt2
          rw [← hB.cell (World.block_lt_of_cell? w _ hcj)] at hcj
          have hl : k.length = m := hb.1
          have HT : Hid (∀ z : Int, z = bt k t → cellsOf (l ++ k.take t) ++ [Value.int .u8 z] = cellsOf (l ++ k.take (t + 1))) := by
            intro z hz
            rw [cellsOf_append, cellsOf_append, List.append_assoc, take_snoc k t (by omega) z hz]
          clear hc hl
          go_wp2_with (at_builtin; refine wpList_push_fits _ rfl _ _ rfl w.heap.size w.heap.size (j + t) (j + m) _ rfl rfl hown (by omega) ?_; intro w2 hown2 hg2)
          rw [HT.out _ rfl] at hown2
          go_roundw
          case rel => exact ⟨t + 1, by omega, by go_num, rfl, hown2, hB.grown hg2 hB.size (by simp)⟩
          case measure => simp [intOf]; omega
        · obtain rfl : t = m := by omega
          go_wp2
          go_ret
          rw [List.take_of_length_le (by rw [hb.1]; omega)] at hown
          exact ⟨rfl, hown, grownBy_of_below hB⟩

set_option maxRecDepth 20000 in
set_option maxHeartbeats 1000000 in
theorem refUint_any (x : Nat) (w : World) (hx : x < 18446744073709551616) :
    Calls Tryz.prog 67 #[.int .u64 x] w fun e w' => ∃ v, e = .returned v ∧ w'.ownsRow w.heap.size 5 1 v (short x).length (cellsOf (short x)) ∧ Below w.heap.size w w' := by
  obtain ⟨S, hS⟩ : ∃ S, S = short x := ⟨_, rfl⟩
  rw [← hS]
  have HS : Hid (S = [] ++ shortF (9 - 0) x) := by rw [hS]; rfl
  have Hlen : Hid (S.length ≤ 10) := by show _ ≤ _; rw [hS]; exact short_len x
  clear hS
  go_enter Tryz.func67, Tryz.ntmps67
  go_wp2
  go_loopw [0, 3] (fun z v wr => ∃ (k y m : Nat) (d : List UInt8), k ≤ 9 ∧ m = d.length ∧ Hid (y * 128 ^ k < 18446744073709551616) ∧ Hid (S = d ++ shortF (9 - k) y) ∧ z = .int .u64 y ∧
      wr.ownsRow w.heap.size 5 1 v m (cellsOf d) ∧ Below w.heap.size w wr) (fun z _ _ => (intOf z).toNat)
  case atStart => exact ⟨0, x, 0, [], by omega, rfl, by show _ < _; omega, HS, rfl, World.ownsRow_nil _ _ _ _, Below.refl _ _⟩
  case round =>
    clear HS
    obtain ⟨k, y, m, d, hk, hm, HY, HS, rfl, hown, hB⟩ := hrel
    have Hm : Hid (m = d.length) := hm
    have hm10 : m ≤ 10 := by
      have h1 := HS.out; have h2 := Hlen.out
      rw [h1, List.length_append] at h2
      omega
    clear hm
    by_cases hy : 128 ≤ y
    · have hk8 : k ≤ 8 := by
        by_cases h9 : k = 9
        · subst h9; have := HY.out; omega
        · omega
      have hsl := shortF_high (8 - k) y (by omega)
      rw [show 8 - k + 1 = 9 - k from by omega] at hsl
      have HL : Hid (shortF (9 - k) y = UInt8.ofNat (y % 128 + 128) :: shortF (8 - k) (y / 128)) := hsl
      clear hsl
      have hyu : (y : Int) ≤ 18446744073709551615 := by
        have h1 := HY.out
        have h2 : y ≤ y * 128 ^ k := Nat.le_mul_of_pos_right y (Nat.pow_pos (by omega))
        omega
      go_wp2_with (at_builtin; refine wpList_push_own _ rfl _ _ rfl w.heap.size m _ _ rfl rfl hown (by omega) hB.size ?_; intro v1 w1 hown1 hb1)
      rw [cellsOf_snoc d (UInt8.ofNat (y % 128 + 128)) _ (by rw [UInt8.toNat_ofNat']; omega)] at hown1
      go_roundw
      case rel =>
        refine ⟨k + 1, y / 128, m + 1, d ++ [UInt8.ofNat (y % 128 + 128)], by omega, by have := Hm.out; simp; omega, ?_, ?_, by go_num, hown1, hB.trans hb1⟩
        · have h1 := HY.out
          have h2 : y / 128 * 128 ^ (k + 1) ≤ y * 128 ^ k := by
            rw [Nat.pow_succ, Nat.mul_comm (128 ^ k) 128, ← Nat.mul_assoc]
            exact Nat.mul_le_mul_right _ (Nat.div_mul_le_self y 128)
          show _ < _
          omega
        · have h1 := HS.out
          rw [HL.out] at h1
          show S = _
          rw [h1, show 9 - (k + 1) = 8 - k from by omega]
          simp
      case measure => simp [intOf]; omega
    · have hsl := shortF_low (9 - k) y (by omega)
      have HL : Hid (S = d ++ [UInt8.ofNat y]) := by have := HS.out; rw [hsl] at this; exact this
      clear hsl
      go_wp2_with (at_builtin; refine wpList_push_own _ rfl _ _ rfl w.heap.size m _ _ rfl rfl hown (by omega) hB.size ?_; intro v1 w1 hown1 hb1)
      rw [cellsOf_snoc d (UInt8.ofNat y) _ (by rw [← low8]; omega)] at hown1
      go_ret
      have e1 : m + 1 = S.length := by have h1 := HL.out; have h2 := Hm.out; rw [h1]; simp; omega
      rw [← HL.out, e1] at hown1
      exact ⟨_, rfl, hown1, hB.trans hb1⟩

set_option maxRecDepth 20000 in
set_option maxHeartbeats 1000000 in
theorem refText_any (s : ByteArray) (w : World) (hs : s.size ≤ 140737488351232) :
    Calls Tryz.prog 50 #[.string s] w fun e w' => ∃ v, e = .returned v ∧ w'.ownsRow w.heap.size 5 1 v ((short s.size).length + s.size) (cellsOf (short s.size ++ s.data.toList)) ∧ Below w.heap.size w w' := by
  have hs10 := short_len s.size
  have HB : Hid (∀ k, (hk : k < s.size) → (s[k].toNat : Int) = bt s.data.toList k) := fun k hk => str_bt s k hk
  have hl : s.data.toList.length = s.size := by simp
  obtain ⟨S, hS⟩ : ∃ S, S = short s.size := ⟨_, rfl⟩
  obtain ⟨l, hL⟩ : ∃ l, l = s.data.toList := ⟨_, rfl⟩
  have HS : Hid (S = short s.size) := hS
  rw [← hL] at HB hl ⊢
  rw [← hS] at hs10 ⊢
  have Hl : Hid (l.length = s.size) := hl
  clear hl hS hL
  go_enter Tryz.func50, Tryz.ntmps50
  go_wp2_with fail
  refine (refUint_any s.size w (by omega)).mono ?_
  rintro e w1 ⟨v, rfl, hown, hB⟩
  rw [← HS.out] at hown
  go_wp2_with fail
  go_loopw [3, 4] (fun v i wr => ∃ t : Nat, t ≤ s.size ∧ i = .int .i64 t ∧ wr.ownsRow w.heap.size 5 1 v (S.length + t) (cellsOf (S ++ l.take t)) ∧ Below w.heap.size w wr) (fun _ i _ => s.size - (intOf i).toNat)
  case atStart => exact ⟨0, Nat.zero_le _, rfl, by simpa using hown, hB⟩
  case round =>
    clear hown hB
    obtain ⟨t, ht, rfl, hown, hB⟩ := hrel
    by_cases hlt : t < s.size
    · have hbk := HB.out t hlt
      have HT : Hid (∀ z : Int, z = (s[t].toNat : Int) → cellsOf (S ++ l.take t) ++ [Value.int .u8 z] = cellsOf (S ++ l.take (t + 1))) := by
        intro z hz
        rw [cellsOf_append, cellsOf_append, List.append_assoc, take_snoc l t (by rw [Hl.out]; exact hlt) z (by rw [hz, hbk])]
      clear hbk
      go_wp2_with (at_builtin; refine wpList_push_own _ rfl _ _ rfl w.heap.size (S.length + t) _ _ rfl rfl hown (by omega) hB.size ?_; intro v1 w2 hown2 hb2)
      rw [HT.out _ rfl] at hown2
      go_roundw
      case rel => exact ⟨t + 1, by omega, by go_num, hown2, hB.trans hb2⟩
      case measure => simp [intOf]; omega
    · obtain rfl : t = s.size := by omega
      go_wp2
      go_ret
      rw [List.take_of_length_le (by rw [Hl.out]; omega)] at hown
      exact ⟨_, rfl, hown, hB⟩

/-- the row of eight cells behind k rounds -/
structure WideRow (w : World) (H x k : Nat) : Prop where
  cell : ∀ j, j < 8 → w.cell? ⟨H, j, none⟩ = some (.int .u8 (wideCell x k j))
  free : ∀ j, j < 8 → w.frozen? ⟨H, j, none⟩ = false

theorem WideRow.step {w : World} {H x k j : Nat} (h : WideRow w H x k) (hj : j + k = 7) (v : Int) (hv : v = ((x / 256 ^ k % 256 : Nat) : Int)) : WideRow (w.setCell ⟨H, j, none⟩ (.int .u8 v)) H x (k + 1) := by
  subst hv
  refine ⟨fun i hi => ?_, fun i hi => by rw [World.frozen?_setCell]; exact h.free i hi⟩
  by_cases hij : i = j
  · subst hij
    rw [wideCell_new x k i hj]
    exact World.cell?_setCell_same _ _ _ (h.cell i hi)
  · rw [World.cell?_setCell_other _ _ _ _ (fun e => hij (by injection e with _ e2; exact e2.symm)), wideCell_old x k j hj i hij]
    exact h.cell i hi

theorem WideRow.bytes {w : World} {H x : Nat} (h : WideRow w H x 8) : Bytes w (some ⟨H, 0, none⟩) 8 (wide x) := by
  refine ⟨wideTo_len x 8, fun _ => ⟨H, 0, rfl, fun i hi => ?_⟩⟩
  rw [Nat.zero_add, h.cell i hi]
  unfold wide
  rw [wideTo_bt x i 8 hi]
  unfold wideCell
  rw [if_pos (by omega)]

set_option maxRecDepth 20000 in
set_option maxHeartbeats 1000000 in
theorem refWord_any (x : Nat) (w : World) (hx : x < 18446744073709551616) :
    Calls Tryz.prog 51 #[.int .u64 x] w fun e w' => e = .returned (.slice (some ⟨w.heap.size, 0, none⟩) 8 8) ∧ Bytes w' (some ⟨w.heap.size, 0, none⟩) 8 (wide x) ∧ Below w.heap.size w w' := by
  obtain ⟨i0, hi, hz0, hz1, hz2⟩ := info_parts Tryz.info5
  have hu := Tryz.underlying36
  go_enter Tryz.func51, Tryz.ntmps51
  go_wp2_with (at_make; refine wpList_make_part _ rfl _ _ 36 rfl 5 i0 (.int .u8 0) hu hi hz0 hz1 hz2 _ _ 8 8 _ _ rfl rfl rfl rfl (by omega) (by omega) ?_; intro w1 hg1 hb1)
  go_loopw [0, 4] (fun z i wr => ∃ k : Nat, k ≤ 8 ∧ i = .int .i64 (7 - (k : Int)) ∧ z = .int .u64 (x / 256 ^ k : Nat) ∧ WideRow wr w.heap.size x k ∧ Below w.heap.size w wr) (fun _ i _ => (intOf i + 1).toNat)
  case atStart =>
    refine ⟨0, Nat.zero_le _, rfl, by simp, ⟨fun j hj => ?_, fun j hj => (made_cell _ _ _ hg1.out j hj).2⟩, hb1⟩
    rw [(made_cell _ _ _ hg1.out j hj).1]
    unfold wideCell
    rw [if_neg (by omega)]
  case round =>
    clear hg1 hb1
    obtain ⟨k, hk, rfl, rfl, HR, hB⟩ := hrel
    by_cases hlt : k < 8
    · obtain ⟨j, hj⟩ : ∃ j : Nat, j + k = 7 := ⟨7 - k, by omega⟩
      rw [show (7 - (k : Int)) = (j : Int) from by omega]
      have hcj := HR.cell j (by omega)
      have hfj := HR.free j (by omega)
      have i0 : (0 : Int) ≤ (j : Int) := by omega
      have i1 : (j : Int) < 8 := by omega
      have Hj : Hid (j + k = 7) := hj
      have HD : Hid ((x / 256 ^ k) / 256 = x / 256 ^ (k + 1)) := by show _ = _; rw [Nat.div_div_eq_div_mul, Nat.pow_succ]
      have hyx : x / 256 ^ k < 18446744073709551616 := Nat.lt_of_le_of_lt (Nat.div_le_self _ _) hx
      clear hj hx
      generalize hy : x / 256 ^ k = y at *
      have Hy : Hid (x / 256 ^ k = y) := hy
      clear hy
      go_wp2
      go_roundw
      case rel =>
        refine ⟨k + 1, by omega, by have := Hj.out; go_num, ?_, HR.step Hj.out _ (by rw [Hy.out]; omega), hB.setCell (Nat.le_refl _) _⟩
        rw [← HD.out]
        go_num
      case measure => simp [intOf]
    · obtain rfl : k = 8 := by omega
      go_wp2
      go_ret
      exact ⟨rfl, HR.bytes, hB⟩

end Go.Proofs.YthalpnpnbclipaaGreat

/- What puts the bytes together: counts, words, texts. -/
namespace Go.Proofs.YthalpnpnbclipaaGreat
open Go.RowKit

/-- blocks of another type than bytes stand, but for B -/
def Keeps (B : Nat) (W W' : World) : Prop := ∀ K cs t, W.heap[K]? = some (.cells cs t (0, 0)) → t ≠ 5 → K ≠ B → W'.heap[K]? = some (.cells cs t (0, 0))
theorem Keeps.trans {B : Nat} {X Y Z : World} (h : Keeps B X Y) (k : Keeps B Y Z) : Keeps B X Z := fun K cs t a b c => k K cs t (h K cs t a b c) b c
theorem Keeps.of {B : Nat} {X Y : World} (h : Below X.heap.size X Y) : Keeps B X Y := fun K _ _ a _ _ => (h.block K (Array.getElem?_eq_some_iff.1 a).1).trans a

set_option maxRecDepth 20000 in
theorem put_any2 (w0 : World) (B : Nat) (l : List UInt8) (a : Option Addr) (n c : Nat) (m : List UInt8) (W : World) (h : OOut w0 B l W) (hb : Bytes W a n m) (hnil : a = none → n = 0 ∧ c = 0) (hm : l.length + n ≤ 140737488355328) :
    Calls Tryz.prog 99 #[.slice a n c, .pointer (some ⟨B, 0, none⟩)] W fun e W' => e = .returned (.tuple #[]) ∧ OOut w0 B (l ++ m) W' ∧ Keeps B W W' := by
  obtain ⟨v, hv, ho⟩ := h.box
  have cv := hv.cell
  have hsz := h.bel.size
  have d1 : 36 ≠ 5 := by decide
  go_enter Tryz.func99, Tryz.ntmps99
  go_wp2_with (at_builtin; refine wpList_app _ w0.heap.size hsz rfl _ _ rfl v l.length _ rfl ho a n c m rfl hb hnil hm ?_; intro v' W2 ho2 hg2 _; have hv2 : Boxed W2 B 36 v := hv.kept hg2 (hv.not_row d1 ho); have c2 := hv2.cell; have f2 := hv2.frozen; obtain ⟨ad, cp, rfl, _⟩ := row_shape ho2)
  go_end0
  refine ⟨rfl, ⟨⟨_, hv2.set _, ?_⟩, ?_, h.le⟩, fun K cs t hK ht hKB => ?_⟩
  · rw [List.length_append, hb.1, cellsOf_append]
    exact ho2.kept (grownBy_setCell' W2 B _) (.inr (hv2.not_row d1 ho2).symm)
  · exact (h.bel.grown hg2 hsz (fun k hk => (row_block ho k hk).1)).setCell (p := ⟨B, 0, none⟩) h.le _
  · have hlt : K < W.heap.size := (Array.getElem?_eq_some_iff.1 hK).1
    have h2 : W2.heap[K]? = some (.cells cs t (0, 0)) := (hg2.block K hlt (fun e => by
      obtain ⟨_, _, cur, hcur⟩ := row_block ho K e.symm
      rw [hK] at hcur
      cases hcur
      exact ht rfl)).trans hK
    exact (Below.heap_setCell _ _ _ _ hKB).trans h2

abbrev putV (B : Nat) : Value := .func (.func 99) #[] #[.pointer (some ⟨B, 0, none⟩)]
theorem grown_below {w w' : World} (h : w.grownBy w' none) : Below w.heap.size w w' := (Below.refl _ w).grown h (Nat.le_refl _) (by simp)

theorem count_any (w0 : World) (B : Nat) (l : List UInt8) (x : Nat) (W : World) (h : OOut w0 B l W) (hx : x < 9223372036854775808) (hm : l.length ≤ 70368744177664) :
    Calls Tryz.prog 123 #[putV B, .int .i64 (x : Int)] W fun e W' => e = .returned (.tuple #[]) ∧ OOut w0 B (l ++ short x) W' ∧ Keeps B W W' := by
  have hs := short_len x
  have hp := putUint_any none 0 0 x [] W ⟨rfl, fun h => absurd h (by omega)⟩ (by omega) (by omega)
  simp only [Nat.zero_add, List.nil_append] at hp
  go_enter Tryz.func123, Tryz.ntmps123
  go_wp2_with first
    | (go_at_call 134; refine hp.mono ?_; clear hp; rintro e w1 ⟨g, c, rfl, ho, hg⟩; have hB := grown_below hg; have hO := h.below hB; have hby := row_bytes ho; clear ho hg)
    | (go_at_call 99; refine (put_any2 w0 B l (some ⟨g, 0, none⟩) _ c (short x) _ hO hby (fun h => by cases h) (by omega)).mono ?_; rintro e w2 ⟨rfl, hO2, hK⟩)
  go_end0
  exact ⟨rfl, hO2, (Keeps.of hB).trans hK⟩
theorem word_any (w0 : World) (B : Nat) (l : List UInt8) (x : Nat) (W : World) (h : OOut w0 B l W) (hx : x < 18446744073709551616) (hm : l.length ≤ 70368744177664) :
    Calls Tryz.prog 126 #[putV B, .int .u64 (x : Int)] W fun e W' => e = .returned (.tuple #[]) ∧ OOut w0 B (l ++ wide x) W' ∧ Keeps B W W' := by
  have hp := putWord_any none 0 0 x [] W ⟨rfl, fun h => absurd h (by omega)⟩ (by omega) hx
  simp only [Nat.zero_add, List.nil_append] at hp
  go_enter Tryz.func126, Tryz.ntmps126
  go_wp2_with first
    | (go_at_call 83; refine hp.mono ?_; clear hp; rintro e w1 ⟨g, c, rfl, ho, hg⟩; have hB := grown_below hg; have hO := h.below hB; have hby := row_bytes ho; clear ho hg)
    | (go_at_call 99; refine (put_any2 w0 B l (some ⟨g, 0, none⟩) _ c (wide x) _ hO hby (fun h => by cases h) (by omega)).mono ?_; rintro e w2 ⟨rfl, hO2, hK⟩)
  go_end0
  exact ⟨rfl, hO2, (Keeps.of hB).trans hK⟩
theorem text_any (w0 : World) (B : Nat) (l : List UInt8) (s : ByteArray) (W : World) (h : OOut w0 B l W) (hs : s.size ≤ 1099511627776) (hm : l.length ≤ 70368744177664) :
    Calls Tryz.prog 124 #[putV B, .string s] W fun e W' => e = .returned (.tuple #[]) ∧ OOut w0 B (l ++ (short s.size ++ s.data.toList)) W' ∧ Keeps B W W' := by
  have hsl : (short s.size).length ≤ 10 := short_len s.size
  have hp := putText_any none 0 0 s [] W ⟨rfl, fun h => absurd h (by omega)⟩ (by omega)
  simp only [Nat.zero_add, List.nil_append] at hp
  go_enter Tryz.func124, Tryz.ntmps124
  go_wp2_with first
    | (go_at_call 84; refine hp.mono ?_; clear hp; rintro e w1 ⟨g, m, c, hmm, rfl, ho, hg⟩; have hml : m ≤ 2199023255552 := (by omega); clear hmm; have hB := grown_below hg; have hO := h.below hB; have hby := row_bytes ho; clear ho hg)
    | (go_at_call 99; refine (put_any2 w0 B l (some ⟨g, 0, none⟩) m c (short s.size ++ s.data.toList) _ hO hby (fun h => by cases h) (by omega)).mono ?_; rintro e w2 ⟨rfl, hO2, hK⟩)
  go_end0
  exact ⟨rfl, hO2, (Keeps.of hB).trans hK⟩
theorem entryMark_any (b : Bool) (w : World) : Calls Tryz.prog 125 #[.bool b] w fun e w' => e = .returned (.int .u8 (if b then 1 else 0)) ∧ w' = w := by
  cases b
  · go_enter Tryz.func125, Tryz.ntmps125
    go_wp2
    go_ret
    exact ⟨rfl, rfl⟩
  · go_enter Tryz.func125, Tryz.ntmps125
    go_wp2
    go_ret
    exact ⟨rfl, rfl⟩

/-- the bytes of entries -/
def entB (x : Ent) : List UInt8 := (short x.1.size ++ x.1.data.toList) ++ [if x.2.1 then 1 else 0] ++ wide x.2.2.toNat
def entsB (l : List Ent) : List UInt8 := (l.map entB).flatten
theorem entsB_take (l : List Ent) (k : Nat) (x : Ent) (h : l[k]? = some x) : entsB (l.take (k + 1)) = entsB (l.take k) ++ entB x := by
  unfold entsB
  rw [List.take_add_one, h]
  simp
/-- entries whose fields are as long and great as may be -/
structure Fits (l : List Ent) : Prop where
  name : ∀ (j : Nat) x, l[j]? = some x → x.1.size ≤ 32
  id : ∀ (j : Nat) x, l[j]? = some x → 0 ≤ x.2.2 ∧ x.2.2 < 18446744073709551616
theorem owide_len (x : Nat) : (wide x).length = 8 := by simp [wide, wideTo]
theorem entsB_len (l : List Ent) (h : Fits l) (k : Nat) (hk : k ≤ l.length) : (entsB (l.take k)).length ≤ k * 51 := by
  induction k with
  | zero => simp [entsB]
  | succ k ih =>
    have h1 := ih (by omega)
    obtain ⟨x, hx⟩ : ∃ x, l[k]? = some x := ⟨_, List.getElem?_eq_getElem (by omega)⟩
    rw [entsB_take l k x hx]
    have h2 := h.name k x hx
    have h3 := short_len x.1.size
    have h4 := owide_len x.2.2.toNat
    have h5 : x.1.data.toList.length = x.1.size := by simp
    simp only [entB, List.length_append, List.length_singleton, h4, h5]
    omega
theorem Keeps.box3 {B : Nat} {W W' : World} {g : Nat} {u0 u1 u2 : Value} (h : Keeps B W W') (hb : Box3 W g u0 u1 u2) (hg : g ≠ B) : Box3 W' g u0 u1 u2 := h g _ _ hb (by decide) hg

set_option maxRecDepth 100000 in
set_option maxHeartbeats 4000000 in
theorem putTree_any (w0 : World) (B : Nat) (l0 : List UInt8) (a : Option Addr) (n c : Nat) (l : List Ent) (W : World) (h : OOut w0 B l0 W) (hE : Ents w0 a n l) (hF : Fits l) (hn : n ≤ 256) (hl0 : l0.length ≤ 1024) :
    Calls Tryz.prog 100 #[putV B, .agg #[.slice a n c]] W fun e W' => e = .returned (.tuple #[]) ∧ OOut w0 B (l0 ++ (short n ++ entsB l)) W' ∧ Keeps B W W' := by
  have hll := hE.1
  have hsn := short_len n
  obtain ⟨v, hv, _⟩ := h.box
  have hBW := hv.lt
  have hK0 : Keeps B W (W.alloc (.cells #[.slice a n c] 69)) := Keeps.of ((Below.refl _ _).alloc (Nat.le_refl _) _)
  have bx0 : (W.alloc (.cells #[.slice a n c] 69)).heap[W.heap.size]? = some (.cells #[.slice a n c] 69 (0, 0)) := World.alloc_heap_new _ _
  have H0 : Hid (Keeps B W (W.alloc (.cells #[.slice a n c] 69))) := hK0
  have hO0 := h.alloc (.cells #[.slice a n c] 69)
  clear hv hK0
  go_enter Tryz.func100, Tryz.ntmps100
  go_wp2_with (go_at_call 123; refine (count_any w0 B l0 n _ hO0 (by omega) (by omega)).mono ?_; rintro e w1 ⟨rfl, hO1, hK1⟩; have bx1 : Boxed w1 W.heap.size 69 (.slice a n c) := hK1 _ _ _ bx0 (by decide) (by omega); have cb1 := bx1.cell; have H1 : Hid (OOut w0 B (l0 ++ short n ++ entsB (l.take 0)) w1 ∧ Keeps B W w1) := ⟨by simpa [entsB] using hO1, H0.out.trans hK1⟩; clear hO1 hK1 hO0 bx0 H0)
  go_loopw [14] (fun i wr => ∃ k : Nat, k ≤ n ∧ i = .int .i64 (k : Int) ∧ Hid (OOut w0 B (l0 ++ short n ++ entsB (l.take k)) wr ∧ Keeps B W wr)) (fun i _ => n - (intOf i).toNat)
  case atStart => exact ⟨0, Nat.zero_le _, rfl, H1.out⟩
  case round =>
    clear H1 cb1 bx1
    obtain ⟨k, hk, rfl, H⟩ := hrel
    by_cases hlt : k < n
    · obtain ⟨x, hx⟩ : ∃ x, l[k]? = some x := ⟨_, List.getElem?_eq_getElem (by omega)⟩
      obtain ⟨b1, o1, rfl, hc1⟩ := hE.2 (by omega)
      obtain ⟨t1, t2, t3⟩ := hc1 k x hx
      have hBw := H.out.1.bel
      have q1 := (hBw.cell (p := ⟨b1, o1 + k * 3, none⟩) (World.block_lt_of_cell? w0 _ t1)).trans t1
      have q2 := (hBw.cell (p := ⟨b1, o1 + k * 3 + 1, none⟩) (World.block_lt_of_cell? w0 _ t2)).trans t2
      have q3 := (hBw.cell (p := ⟨b1, o1 + k * 3 + 2, none⟩) (World.block_lt_of_cell? w0 _ t3)).trans t3
      have i2 : (k : Int) < (n : Int) := by omega
      have i3 : ¬ n ≤ k := by omega
      have HT := entsB_take l k x hx
      have hln := entsB_len l hF k (by omega)
      have hsz := hF.name k x hx
      have hid := hF.id k x hx
      obtain ⟨nm, fo, id⟩ := x
      simp only at q1 q2 q3 hsz hid HT
      obtain ⟨y, rfl⟩ := Int.eq_ofNat_of_zero_le hid.1
      have HTe : Hid (l0 ++ short n ++ entsB (l.take (k + 1)) = l0 ++ short n ++ entsB (l.take k) ++ (short nm.size ++ nm.data.toList) ++ [if fo then 1 else 0] ++ wide y) := by
        show _ = _
        rw [HT]
        simp [entB]
      generalize hP : l0 ++ short n ++ entsB (l.take k) = P at *
      have hPl : P.length ≤ 16384 := by rw [← hP]; simp only [List.length_append]; omega
      have hsm := short_len nm.size
      clear hP hc1 hx t1 t2 t3 hBw HT hln
      have bx : Box3 (wr.alloc (.cells #[.string nm, .bool fo, .int .u64 (y : Int)] 127)) wr.heap.size (.string nm) (.bool fo) (.int .u64 (y : Int)) := Box3.new wr _ _ _
      obtain ⟨vv, hvv, _⟩ := H.out.1.box
      have hBr := hvv.lt
      clear hvv
      have hO2 := H.out.1.alloc (.cells #[.string nm, .bool fo, .int .u64 (y : Int)] 127)
      have HK2 : Hid (Keeps B W (wr.alloc (.cells #[.string nm, .bool fo, .int .u64 (y : Int)] 127))) := H.out.2.trans (Keeps.of ((Below.refl _ _).alloc (Nat.le_refl _) _))
      cases fo with
      | false =>
        have hem : ∀ w, Calls Tryz.prog 125 #[.bool false] w fun e w' => e = .returned (.int .u8 0) ∧ w' = w := fun w => entryMark_any false w
        simp only [Bool.false_eq_true, if_false] at HTe
        go_wp2_with first
          | (go_at_call 124; refine (text_any w0 B P nm _ hO2 (by omega) (by omega)).mono ?_; rintro e x3 ⟨rfl, hO3, hK3⟩; have bx3 := hK3.box3 bx (by omega); obtain ⟨c0, c1, c2⟩ := bx3.cell; have HK3 : Hid (Keeps B W x3) := HK2.out.trans hK3; clear hK3 hO2 HK2 bx)
          | (go_at_call 125; refine (hem _).mono ?_; clear hem; rintro e x3' ⟨rfl, hx3⟩; subst hx3)
          | (go_at_call 99; refine (put_any2 w0 B _ (some ⟨_, 0, none⟩) 1 1 [0] _ (hO3.alloc _) (bytes_new _ [0] _ rfl) (fun h => by cases h) (by simp only [List.length_append]; have : nm.data.toList.length = nm.size := (by simp); omega)).mono ?_; rintro e x4 ⟨rfl, hO4, hK4⟩; have bx4 := hK4.box3 (bx3.below ((Below.refl _ _).alloc (Nat.le_refl _) _) bx3.lt) (by omega); obtain ⟨d0, d1, d2⟩ := bx4.cell; have HK4 : Hid (Keeps B W x4) := (HK3.out.trans (Keeps.of ((Below.refl _ _).alloc (Nat.le_refl _) _))).trans hK4; clear hK4 hO3 HK3 bx3 c0 c1 c2 bx4)
          | (go_at_call 126; refine (word_any w0 B _ y _ hO4 (by omega) (by simp only [List.length_append, List.length_singleton]; have : nm.data.toList.length = nm.size := (by simp); omega)).mono ?_; rintro e x5 ⟨rfl, hO5, hK5⟩; have HF5 : Hid (OOut w0 B (l0 ++ short n ++ entsB (l.take (k + 1))) x5 ∧ Keeps B W x5) := ⟨by rw [HTe.out]; exact hO5, HK4.out.trans hK5⟩; clear hK5 hO5 hO4 HK4)
        go_roundw
        case rel => exact ⟨k + 1, by omega, by simp, HF5.out⟩
        case measure => simp [intOf]; omega
      | true =>
        have hem : ∀ w, Calls Tryz.prog 125 #[.bool true] w fun e w' => e = .returned (.int .u8 1) ∧ w' = w := fun w => entryMark_any true w
        simp only [if_true] at HTe
        go_wp2_with first
          | (go_at_call 124; refine (text_any w0 B P nm _ hO2 (by omega) (by omega)).mono ?_; rintro e x3 ⟨rfl, hO3, hK3⟩; have bx3 := hK3.box3 bx (by omega); obtain ⟨c0, c1, c2⟩ := bx3.cell; have HK3 : Hid (Keeps B W x3) := HK2.out.trans hK3; clear hK3 hO2 HK2 bx)
          | (go_at_call 125; refine (hem _).mono ?_; clear hem; rintro e x3' ⟨rfl, hx3⟩; subst hx3)
          | (go_at_call 99; refine (put_any2 w0 B _ (some ⟨_, 0, none⟩) 1 1 [1] _ (hO3.alloc _) (bytes_new _ [1] _ rfl) (fun h => by cases h) (by simp only [List.length_append]; have : nm.data.toList.length = nm.size := (by simp); omega)).mono ?_; rintro e x4 ⟨rfl, hO4, hK4⟩; have bx4 := hK4.box3 (bx3.below ((Below.refl _ _).alloc (Nat.le_refl _) _) bx3.lt) (by omega); obtain ⟨d0, d1, d2⟩ := bx4.cell; have HK4 : Hid (Keeps B W x4) := (HK3.out.trans (Keeps.of ((Below.refl _ _).alloc (Nat.le_refl _) _))).trans hK4; clear hK4 hO3 HK3 bx3 c0 c1 c2 bx4)
          | (go_at_call 126; refine (word_any w0 B _ y _ hO4 (by omega) (by simp only [List.length_append, List.length_singleton]; have : nm.data.toList.length = nm.size := (by simp); omega)).mono ?_; rintro e x5 ⟨rfl, hO5, hK5⟩; have HF5 : Hid (OOut w0 B (l0 ++ short n ++ entsB (l.take (k + 1))) x5 ∧ Keeps B W x5) := ⟨by rw [HTe.out]; exact hO5, HK4.out.trans hK5⟩; clear hK5 hO5 hO4 HK4)
        go_roundw
        case rel => exact ⟨k + 1, by omega, by simp, HF5.out⟩
        case measure => simp [intOf]; omega
    · obtain rfl : k = n := by omega
      have i2 : ¬ (k : Int) < (k : Int) := by omega
      go_wp2
      go_end0
      refine ⟨rfl, ?_, H.out.2⟩
      have := H.out.1
      rw [← hll, List.take_length, List.append_assoc] at this
      rw [hll] at this
      exact this
end Go.Proofs.YthalpnpnbclipaaGreat
