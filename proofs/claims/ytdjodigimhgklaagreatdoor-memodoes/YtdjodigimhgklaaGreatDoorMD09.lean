import Derived.Test.YtdjodigimhgklaaGreatDoorMD06
import Derived.Test.YtdjodigimhgklaaGreatDoorMD03
import Derived.Room.AppendFits
import Derived.Test.YtdjodigimhgklaaGreatDoorMD08
import Derived.Deep.RegionHeld3
import Derived.Test.YtdjodigimhgklaaGreatDoorMD07
import Derived.Test.YtdjodigimhgklaaGreatDoorMD04
import Derived.Test.YtdjodigimhgklaaGreatDoorMD01
/- The walks of the program's writing: appendShort, shortSize, PutUint, PutWord, PutText. -/
namespace Go.Proofs.YtdjodigimhgklaaGreatDoor
open Go.RowKit

set_option maxRecDepth 20000 in
set_option maxHeartbeats 1000000 in
theorem appendShort_fits (base g n cap x : Nat) (l : List UInt8) (w : World) (hx : x < 18446744073709551616) (hn : n + (short x).length ≤ cap)
    (hown : w.ownsRow base 5 1 (.slice (some ⟨g, 0, none⟩) n cap) n (cellsOf l)) :
    Calls Tryz.prog 147 #[.slice (some ⟨g, 0, none⟩) n cap, .int .u64 x] w fun e w' => e = .returned (.slice (some ⟨g, 0, none⟩) (n + (short x).length) cap) ∧
      w'.ownsRow base 5 1 (.slice (some ⟨g, 0, none⟩) (n + (short x).length) cap) (n + (short x).length) (cellsOf (l ++ short x)) ∧ w.grownBy w' (some g) := by
  obtain ⟨i0, hi, hz0, hz1, hz2⟩ := info_parts Tryz.info5
  have hu := Tryz.underlying33
  obtain ⟨S, hS⟩ : ∃ S, S = short x := ⟨_, rfl⟩
  rw [← hS] at hn ⊢
  have HS : Hid (S = [] ++ shortF (9 - 0) x) := by rw [hS]; rfl
  clear hS
  go_enter Tryz.func147, Tryz.ntmps147
  go_wp2
  go_loopw [0, 1] (fun v z wr => ∃ (k y m : Nat) (d : List UInt8), k ≤ 9 ∧ m = n + d.length ∧ Hid (y * 128 ^ k < 18446744073709551616) ∧ Hid (S = d ++ shortF (9 - k) y) ∧ z = .int .u64 y ∧ v = .slice (some ⟨g, 0, none⟩) m cap ∧
      wr.ownsRow base 5 1 (.slice (some ⟨g, 0, none⟩) m cap) m (cellsOf (l ++ d)) ∧ w.grownBy wr (some g)) (fun _ z _ => (intOf z).toNat)
  case atStart => exact ⟨0, x, n, [], by omega, by simp, by show _ < _; omega, HS, rfl, rfl, by simpa using hown, World.grownBy.refl _ _⟩
  case round =>
    clear HS
    obtain ⟨k, y, m, d, hk, hm, HY, HS, rfl, rfl, hown', hgr⟩ := hrel
    have Hm : Hid (m = n + d.length) := hm
    clear hm hown
    by_cases hy : 128 ≤ y
    · have hk8 : k ≤ 8 := by
        by_cases h9 : k = 9
        · subst h9; have := HY.out; omega
        · omega
      have hsl := shortF_high (8 - k) y (by omega)
      rw [show 8 - k + 1 = 9 - k from by omega] at hsl
      have hfit : m + 1 ≤ cap := by
        have h1 := HS.out; have h2 := Hm.out
        rw [hsl] at h1
        rw [h1] at hn
        simp at hn; omega
      have HL : Hid (shortF (9 - k) y = UInt8.ofNat (y % 128 + 128) :: shortF (8 - k) (y / 128)) := hsl
      clear hsl
      have Hsn : Hid (∀ z : Int, z = bits BinOp.or IntKind.u8 ((y : Int) % 256) 128 → cellsOf (l ++ d) ++ [Value.int .u8 z] = cellsOf (l ++ (d ++ [UInt8.ofNat (y % 128 + 128)]))) := by
        intro z hz
        rw [cellsOf_snoc (l ++ d) (UInt8.ofNat (y % 128 + 128)) z (by rw [hz, or128]), List.append_assoc]
      go_wp2_with (at_builtin; refine wpList_push_fits _ rfl _ _ rfl base g m cap _ rfl rfl hown' hfit ?_; intro w1 hown1 hgr1)
      rw [Hsn.out _ rfl] at hown1
      go_roundw
      case rel =>
        refine ⟨k + 1, y / 128, m + 1, d ++ [UInt8.ofNat (y % 128 + 128)], by omega, by have := Hm.out; simp; omega, ?_, ?_, by go_num, rfl, hown1, grownBy_trans hgr hgr1⟩
        · have h1 := HY.out
          have h2 : y / 128 * 128 ^ (k + 1) ≤ y * 128 ^ k := by
            rw [Nat.pow_succ, Nat.mul_comm (128 ^ k) 128, ← Nat.mul_assoc]
            exact Nat.mul_le_mul_right _ (Nat.div_mul_le_self y 128)
          show _ < _
          omega
        · have h1 := HS.out
          rw [HL.out] at h1
          show S = _
          rw [h1, show 9 - (k + 1) = 8 - k from by omega]
          simp
      case measure => simp [intOf]; omega
    · have hsl := shortF_low (9 - k) y (by omega)
      have HL : Hid (S = d ++ [UInt8.ofNat y]) := by have := HS.out; rw [hsl] at this; exact this
      clear hsl
      have hfit : m + 1 ≤ cap := by
        have h1 := HL.out; have h2 := Hm.out
        rw [h1] at hn
        simp at hn; omega
      have Hsn : Hid (∀ z : Int, z = (y : Int) → cellsOf (l ++ d) ++ [Value.int .u8 z] = cellsOf (l ++ (d ++ [UInt8.ofNat y]))) := by
        intro z hz
        rw [cellsOf_snoc (l ++ d) (UInt8.ofNat y) z (by rw [hz, ← low8]; omega), List.append_assoc]
      go_wp2_with (at_builtin; refine wpList_push_fits _ rfl _ _ rfl base g m cap _ rfl rfl hown' hfit ?_; intro w1 hown1 hgr1)
      rw [Hsn.out _ rfl] at hown1
      go_ret
      have e1 : m + 1 = n + S.length := by have h1 := HL.out; have h2 := Hm.out; rw [h1]; simp; omega
      rw [← HL.out, e1] at hown1
      rw [← e1] at hown1 ⊢
      exact ⟨rfl, hown1, grownBy_trans hgr hgr1⟩

/-- how many bytes the short form has -/
theorem shortSize_any (x : Nat) (w : World) (hx : x < 18446744073709551616) :
    Calls Tryz.prog 149 #[.int .u64 x] w fun e w' => e = .returned (.int .i64 (short x).length) ∧ w' = w := by
  obtain ⟨S, hS⟩ : ∃ S, S = (short x).length := ⟨_, rfl⟩
  rw [← hS]
  have HS : Hid (S = 0 + (shortF (9 - 0) x).length) := by show S = _; rw [hS]; simp [short]
  clear hS
  go_enter Tryz.func149, Tryz.ntmps149
  go_wp2
  go_loop [0, 3] (fun z q => ∃ (k y : Nat), k ≤ 9 ∧ Hid (y * 128 ^ k < 18446744073709551616) ∧ Hid (S = k + (shortF (9 - k) y).length) ∧ z = .int .u64 (y / 128 : Nat) ∧ q = .int .i64 (k + 1 : Nat)) (fun z _ => (intOf z).toNat)
  case atStart => exact ⟨0, x, by omega, by show _ < _; omega, HS, by go_num, rfl⟩
  case round =>
    clear HS
    obtain ⟨k, y, hk, HY, HS, rfl, rfl⟩ := hrel
    by_cases hy : 128 ≤ y
    · have hk8 : k ≤ 8 := by
        by_cases h9 : k = 9
        · subst h9; have := HY.out; omega
        · omega
      have hsl := shortF_high (8 - k) y (by omega)
      rw [show 8 - k + 1 = 9 - k from by omega] at hsl
      have HL : Hid (S = k + 1 + (shortF (9 - (k + 1)) (y / 128)).length) := by
        have := HS.out
        rw [hsl] at this
        show S = _
        rw [this, show 9 - (k + 1) = 8 - k from by omega]
        simp; omega
      have h0 : 0 < y / 128 := by omega
      have H2 : Hid (y / 128 * 128 ^ (k + 1) < 18446744073709551616) := by
        have h1 := HY.out
        have h2 : y / 128 * 128 ^ (k + 1) ≤ y * 128 ^ k := by
          rw [Nat.pow_succ, Nat.mul_comm (128 ^ k) 128, ← Nat.mul_assoc]
          exact Nat.mul_le_mul_right _ (Nat.div_mul_le_self y 128)
        show _ < _
        omega
      have hyb : y / 128 < y := by omega
      clear hsl HS HY
      generalize y / 128 = u at *
      go_wp2
      go_round
      case rel => exact ⟨k + 1, u, by omega, H2, HL, by go_num, by go_num⟩
      case measure => simp [intOf]; omega
    · have hsl := shortF_low (9 - k) y (by omega)
      have HL : Hid (S = k + 1) := by have := HS.out; rw [hsl] at this; exact this
      have h0 : y / 128 = 0 := by omega
      clear hsl HS
      rw [h0]
      go_wp2
      go_ret
      rw [HL.out]
      exact ⟨rfl, rfl⟩

theorem putUint_any (a : Option Addr) (n cap x : Nat) (l : List UInt8) (w : World) (hb : Bytes w a n l) (hn : n ≤ 281474976710640) (hx : x < 18446744073709551616) :
    Calls Tryz.prog 109 #[.slice a n cap, .int .u64 x] w fun e w' => ∃ g c, e = .returned (.slice (some ⟨g, 0, none⟩) (n + (short x).length) c) ∧
      w'.ownsRow w.heap.size 5 1 (.slice (some ⟨g, 0, none⟩) (n + (short x).length) c) (n + (short x).length) (cellsOf (l ++ short x)) ∧ w.grownBy w' none := by
  have hs := short_len x
  go_enter Tryz.func109, Tryz.ntmps109
  go_wp2_with fail
  refine (shortSize_any x _ hx).mono ?_
  rintro e w1 ⟨rfl, rfl⟩
  go_wp2_with fail
  refine (withRoom_any a n cap (short x).length l _ hb (by omega)).mono ?_
  rintro e w2 ⟨rfl, hown, hg⟩
  go_wp2_with fail
  refine (appendShort_fits _ _ n _ x l w2 hx (Nat.le_refl _) hown).mono ?_
  rintro e w3 ⟨rfl, hown3, hg3⟩
  go_wp2
  go_ret
  exact ⟨_, _, rfl, hown3, grownBy_of_below (((Below.refl _ _).grown hg (Nat.le_refl _) (by simp)).grown hg3 hg.size (by simp))⟩

set_option maxRecDepth 20000 in
set_option maxHeartbeats 1000000 in
theorem putWord_any (a : Option Addr) (n cap x : Nat) (l : List UInt8) (w : World) (hb : Bytes w a n l) (hn : n ≤ 281474976710640) (_hx : x < 18446744073709551616) :
    Calls Tryz.prog 111 #[.slice a n cap, .int .u64 x] w fun e w' => ∃ g c, e = .returned (.slice (some ⟨g, 0, none⟩) (n + 8) c) ∧
      w'.ownsRow w.heap.size 5 1 (.slice (some ⟨g, 0, none⟩) (n + 8) c) (n + 8) (cellsOf (l ++ wide x)) ∧ w.grownBy w' none := by
  go_enter Tryz.func111, Tryz.ntmps111
  go_wp2_with fail
  refine (withRoom_any a n cap 8 l _ hb (by omega)).mono ?_
  rintro e w2 ⟨rfl, hown, hg⟩
  go_wp2_with fail
  go_loopw [5, 6] (fun v s wr => ∃ k : Nat, k ≤ 8 ∧ v = .slice (some ⟨w.heap.size, 0, none⟩) (n + k) (n + 8) ∧ s = .int .i64 (56 - 8 * (k : Int)) ∧
      wr.ownsRow w.heap.size 5 1 (.slice (some ⟨w.heap.size, 0, none⟩) (n + k) (n + 8)) (n + k) (cellsOf (l ++ wideTo x k)) ∧ Below w.heap.size w wr) (fun _ s _ => (intOf s + 8).toNat)
  case atStart => exact ⟨0, by omega, rfl, rfl, by simpa [wideTo] using hown, (Below.refl _ _).grown hg (Nat.le_refl _) (by simp)⟩
  case round =>
    clear hown hg hb
    obtain ⟨k, hk, rfl, rfl, hown', hB⟩ := hrel
    by_cases hk8 : k < 8
    · have i1 : (0 : Int) ≤ 56 - 8 * (k : Int) := by omega
      have i2 : 56 - 8 * (k : Int) < 64 := by omega
      go_wp2_with (at_builtin; refine wpList_push_fits _ rfl _ _ rfl w.heap.size w.heap.size (n + k) (n + 8) _ rfl rfl hown' (by omega) ?_; intro w1 hown1 hgr1)
      rw [cellsOf_snoc (l ++ wideTo x k) _ _ (wide_byte x k hk8), List.append_assoc, ← wideTo_succ] at hown1
      go_roundw
      case rel => exact ⟨k + 1, by omega, rfl, by go_num, hown1, hB.grown hgr1 hB.size (by simp)⟩
      case measure => simp [intOf]; omega
    · obtain rfl : k = 8 := by omega
      go_wp2
      go_ret
      exact ⟨_, _, rfl, hown', grownBy_of_below hB⟩

theorem strCells_eq (s : ByteArray) : Lib.strCells s = cellsOf s.data.toList := rfl

set_option maxRecDepth 20000 in
set_option maxHeartbeats 1000000 in
theorem putText_any (a : Option Addr) (n cap : Nat) (s : ByteArray) (l : List UInt8) (w : World) (hb : Bytes w a n l) (hn : n + s.size ≤ 281474976710640) :
    Calls Tryz.prog 167 #[.slice a n cap, .string s] w fun e w' => ∃ g m c, m = n + (short s.size).length + s.size ∧ e = .returned (.slice (some ⟨g, 0, none⟩) m c) ∧
      w'.ownsRow w.heap.size 5 1 (.slice (some ⟨g, 0, none⟩) m c) m (cellsOf (l ++ (short s.size ++ s.data.toList))) ∧ w.grownBy w' none := by
  obtain ⟨i0, hi, hz0, hz1, hz2⟩ := info_parts Tryz.info5
  have hs := short_len s.size
  have hsp := shortF_pos 9 s.size
  have hx : s.size < 18446744073709551616 := by omega
  go_enter Tryz.func167, Tryz.ntmps167
  go_wp2_with fail
  refine (shortSize_any s.size _ hx).mono ?_
  rintro e w1 ⟨rfl, rfl⟩
  go_wp2_with fail
  rw [show ((short s.size).length : Int) + (s.size : Int) = (((short s.size).length + s.size : Nat) : Int) from by omega]
  refine (withRoom_any a n cap ((short s.size).length + s.size) l _ hb (by omega)).mono ?_
  rintro e w2 ⟨rfl, hown, hg⟩
  go_wp2_with fail
  refine (appendShort_fits _ _ n _ s.size l w2 hx (by omega) hown).mono ?_
  rintro e w3 ⟨rfl, hown3, hg3⟩
  have hB : Below w1.heap.size w1 w3 := ((Below.refl _ _).grown hg (Nat.le_refl _) (by simp)).grown hg3 hg.size (by simp)
  clear hown hg hg3 hb
  have hrm : n + (short s.size).length + s.size ≤ n + ((short s.size).length + s.size) := by omega
  have hcp : 0 < n + ((short s.size).length + s.size) := by unfold short; omega
  clear hsp hs
  generalize hN : n + (short s.size).length = N at *
  generalize hC : n + ((short s.size).length + s.size) = C at *
  have HN : Hid (n + (short s.size).length = N) := hN
  clear hN hC
  go_wp2_with (at_builtin; refine Lib.wpList_append_fits_string _ rfl _ _ 33 9 rfl w1.heap.size 5 i0 Tryz.underlying33 Tryz.underlying9 hi hz1 _ N C _ rfl hown3 s rfl hcp hrm ?_; intro w4 hown4 hg4)
  go_ret
  rw [strCells_eq, ← cellsOf_append, List.append_assoc] at hown4
  exact ⟨_, _, _, by rw [HN.out], rfl, hown4, grownBy_of_below (hB.grown hg4 hB.size (fun k hk => (hown3.lt k hk).1))⟩

end Go.Proofs.YtdjodigimhgklaaGreatDoor

/- A region that draws its order, with calls, in a round of a range over a function: it goes as it goes outside of one. Of no program; no law of the library says it. -/
namespace Go.Proofs.YtdjodigimhgklaaGreatDoor
open Go.RowKit Go.Shelf

theorem rows_wide {n : Nat} {P : Program} {row : String} {args : Array Value} {w : World} {R : Value → World → Prop} (h : Rows P row args w R) : RowsIn Fence.wide n P row args w R := fun c cs _ => let ⟨v, w', r, s⟩ := h c cs; ⟨v, w', r, stepsIn_wide.2 s⟩
theorem upon_wide {n : Nat} {P : Program} {o : Oper} {a : Act} {next : Act → World → Prop} {Q : Exit → Act → World → Prop} {r : Result Next} (h : o.upon P a next Q r) : o.uponIn Fence.wide n P a next Q r := by
  unfold Oper.upon at h
  unfold Oper.uponIn
  split at h
  · exact h
  · exact h
  · exact h
  · exact ⟨(fun h' => by cases h'), callsIn_wide.2 h⟩
  · exact ⟨(fun h' => by cases h'), rows_wide h⟩
  · exact h
  · exact h.elim
theorem any_wide {n : Nat} {P : Program} {md : Region.Mode} {ops : Array Oper} {Q : Exit → Act → World → Prop} (hQ : ¬ LetsOut Q) : ∀ (fuel : Nat) (listed : Array Bool) (a : Act) (w : World), wpAny P md ops Q fuel listed a w → wpAnyIn Fence.wide n P md ops Q fuel listed a w
  | 0, _, _, _, h => h
  | fuel + 1, listed, a, w, h => by
    refine ⟨h.1, fun i hi => ?_⟩
    have hk := h.2 i hi
    unfold wpOp at hk
    unfold wpOpIn
    cases ho : ops[i]? with
    | none =>
      rw [ho] at hk
      exact any_wide hQ fuel _ a w hk
    | some o =>
      rw [ho] at hk
      simp only at hk ⊢
      split at hk
      · rename_i hw
        rw [if_pos hw]
        refine Oper.wpIn_mono (fun a w => any_wide hQ fuel _ a w) ⟨fun _ _ => trivial, ?_⟩
        have : Fence.wide.round = none := rfl
        rw [this, Oper.semAt_none]
        exact upon_wide (hk.resolve_right (fun h => hQ h.2))
      · rename_i hw
        rw [if_neg hw]
        exact ⟨fun _ _ => trivial, any_wide hQ fuel _ _ w hk⟩
theorem region_held_round {n : Nat} {P : Program} {id : Nat} {l : List Oper} {Q : Exit → Act → World → Prop} {S : World → Prop} {a : Act} {w : World} {r : Nat} (hm : P.follows .mixedOrders = true) (hd : l.all noDefer = true) (hQ : ¬ LetsOut Q) (hS : S w.drew)
    (h : S w.drew → wpAnyH P .any l.toArray Q S l.toArray.size (Array.replicate l.toArray.size false) a w.drew) : (Code.region id l.toArray true).wpIn (Fence.wide.inRound r) n P Q a w := by
  refine wpIn_region_any hm (any_round r rfl (fun i o ho => ?_) _ _ _ _ (any_wide hQ _ _ _ _ (wpAny_of_held _ _ _ _ (h hS))))
  rw [List.all_eq_true] at hd
  refine hd o ?_
  have : l[i]? = some o := by simpa using ho
  exact List.mem_of_getElem? this
end Go.Proofs.YtdjodigimhgklaaGreatDoor

/- The walks of the document's digits. -/
namespace Go.Proofs.YtdjodigimhgklaaGreatDoor
open Go.RowKit

set_option maxRecDepth 20000 in
set_option maxHeartbeats 1000000 in
theorem refHex_any (x : Nat) (w : World) (hx : x < 18446744073709551616) :
    Calls Tryz.prog 62 #[.int .u64 x] w fun e w' => e = .returned (.string ⟨(hexOf x).toArray⟩) ∧ Below w.heap.size w w' := by
  obtain ⟨i0, hi, hz0, hz1, hz2⟩ := info_parts Tryz.info5
  have hu := Tryz.underlying33
  go_enter Tryz.func62, Tryz.ntmps62
  go_wp2_with (at_make; refine wpList_make_part _ rfl _ _ 33 rfl 5 i0 (.int .u8 0) hu hi hz0 hz1 hz2 _ _ 16 16 _ _ rfl rfl rfl rfl (by omega) (by omega) ?_; intro w1 hg1 hb1)
  go_loopw [0, 4] (fun z i wr => ∃ k : Nat, k ≤ 16 ∧ i = .int .i64 (15 - (k : Int)) ∧ z = .int .u64 (x / 16 ^ k : Nat) ∧ HexRow wr w.heap.size x k ∧ Below w.heap.size w wr) (fun _ i _ => (intOf i + 1).toNat)
  case atStart =>
    refine ⟨0, Nat.zero_le _, rfl, by simp, ⟨fun j hj => ?_, fun j hj => (made_cell _ _ _ hg1.out j hj).2⟩, hb1⟩
    rw [(made_cell _ _ _ hg1.out j hj).1]
    unfold hexCell
    rw [if_neg (by omega)]
  case round =>
    clear hg1 hb1
    obtain ⟨k, hk, rfl, rfl, HR, hB⟩ := hrel
    by_cases hlt : k < 16
    · obtain ⟨j, hj⟩ : ∃ j : Nat, j + k = 15 := ⟨15 - k, by omega⟩
      rw [show (15 - (k : Int)) = (j : Int) from by omega]
      have hcj := HR.cell j (by omega)
      have hfj := HR.free j (by omega)
      have i0 : (0 : Int) ≤ (j : Int) := by omega
      have i1 : (j : Int) < 16 := by omega
      have Hj : Hid (j + k = 15) := hj
      have HD : Hid ((x / 16 ^ k) / 16 = x / 16 ^ (k + 1)) := by show _ = _; rw [Nat.div_div_eq_div_mul, Nat.pow_succ]
      have hyx : x / 16 ^ k < 18446744073709551616 := Nat.lt_of_le_of_lt (Nat.div_le_self _ _) hx
      clear hj hx
      generalize hy : x / 16 ^ k = y at *
      have Hy : Hid (x / 16 ^ k = y) := hy
      clear hy
      by_cases h10 : y % 16 < 10
      · go_wp2
        go_roundw
        case rel =>
          refine ⟨k + 1, by omega, by have := Hj.out; go_num, ?_, HR.step Hj.out _ (by rw [Hy.out]; unfold hexd; rw [if_pos h10]; omega), hB.setCell (Nat.le_refl _) _⟩
          rw [← HD.out]
          go_num
        case measure => simp [intOf]
      · go_wp2
        go_roundw
        case rel =>
          refine ⟨k + 1, by omega, by have := Hj.out; go_num, ?_, HR.step Hj.out _ (by rw [Hy.out]; unfold hexd; rw [if_neg (by omega)]; omega), hB.setCell (Nat.le_refl _) _⟩
          rw [← HD.out]
          go_num
        case measure => simp [intOf]
    · obtain rfl : k = 16 := by omega
      have r1 := run_string wr (some ⟨w.heap.size, 0, none⟩) 16 16 (hexOf x) HR.bytes
      go_wp2
      go_ret
      exact ⟨rfl, hB⟩

end Go.Proofs.YtdjodigimhgklaaGreatDoor

/- The walks of a Reader's Word, Raw and Text. -/
namespace Go.Proofs.YtdjodigimhgklaaGreatDoor
open Go.RowKit

set_option maxHeartbeats 400000 in
theorem wideForm_any (a : Option Addr) (n cap : Nat) (l : List UInt8) (w : World) (hb : Bytes w a n l) (hm : n ≤ 8) :
    Calls Tryz.prog 155 #[.slice a n cap] w fun e w' => e = .returned (.int .u64 (wideVal l n)) ∧ w' = w := by
  obtain ⟨hl, hc⟩ := hb
  go_enter Tryz.func155, Tryz.ntmps155
  go_wp2
  go_loop [3, 8] (fun h i => ∃ k : Nat, k ≤ n ∧ i = .int .i64 k ∧ h = .int .u64 (wideVal l k)) (fun _ i => n - (intOf i).toNat)
  case atStart => exact ⟨0, Nat.zero_le _, rfl, rfl⟩
  case round =>
    obtain ⟨k, hk, rfl, rfl⟩ := hrel
    by_cases hlt : k < n
    · obtain ⟨b, off, rfl, hcell⟩ := hc (by omega)
      have hck := hcell k hlt
      have b0 := bt_lo l k
      have b1 := bt_hi l k
      have h0 := wideVal_lo l k
      have h1 := wideVal_7 l k (by omega)
      have HS : Hid (bits BinOp.or IntKind.u64 (wideVal l k * 256) (bt l k) = wideVal l (k + 1)) := by rw [shl8 _ _ h0 h1 b0 b1]; rfl
      clear hcell hc
      go_wp2
      go_round
      case rel => exact ⟨k + 1, by omega, by go_num, by rw [HS.out]⟩
      case measure => simp [intOf]; omega
    · go_wp2
      go_ret
      obtain rfl : k = n := by omega
      exact ⟨rfl, rfl⟩

theorem word_stuck (w : World) (r g p : Nat) (x : Int) (l : List UInt8) (h : Rd w r g p x l) (hx : (x != 0) = true) :
    Calls Tryz.prog 116 #[.pointer (some ⟨r, 0, none⟩)] w fun e w' => e = .returned (.int .u64 0) ∧ w' = w := by
  go_enter Tryz.func116, Tryz.ntmps116
  go_wp2_with fail
  refine (take_stuck _ r g p x _ l h hx).mono ?_
  rintro e w1 ⟨rfl, rfl⟩
  go_wp2
  go_ret
  exact ⟨rfl, rfl⟩

theorem word_short (w : World) (r g p m : Nat) (l : List UInt8) (h : Rd w r g p 0 l) (hm : l.length = p + m) (h8 : m < 8) :
    Calls Tryz.prog 116 #[.pointer (some ⟨r, 0, none⟩)] w fun e w' => e = .returned (.int .u64 0) ∧ Rd w' r g p 110 l ∧ w.grownBy w' (some r) := by
  have Hm : Hid (l.length = p + m) := hm
  clear hm
  go_enter Tryz.func116, Tryz.ntmps116
  go_wp2_with fail
  refine (take_short _ r g p m _ l h Hm.out (by omega)).mono ?_
  rintro e w1 ⟨rfl, hr, hg⟩
  go_wp2
  go_ret
  exact ⟨rfl, hr, hg⟩

theorem word_yes (w : World) (r g p m : Nat) (l : List UInt8) (h : Rd w r g p 0 l) (hm : l.length = p + m) (h8 : ¬ m < 8) :
    Calls Tryz.prog 116 #[.pointer (some ⟨r, 0, none⟩)] w fun e w' => e = .returned (.int .u64 (wideVal ((l.drop p).take 8) 8)) ∧ Rd w' r g (p + 8) 0 l ∧ w.grownBy w' (some r) := by
  have Hm : Hid (l.length = p + m) := hm
  clear hm
  go_enter Tryz.func116, Tryz.ntmps116
  go_wp2_with fail
  refine (take_yes _ r g p m 8 l h Hm.out (by omega)).mono ?_
  rintro e w1 ⟨a, c, rfl, hb, hr, hg⟩
  go_wp2_with fail
  refine (wideForm_any a 8 c _ _ hb (by omega)).mono ?_
  rintro e w2 ⟨rfl, rfl⟩
  go_wp2
  go_ret
  exact ⟨rfl, hr, hg⟩

end Go.Proofs.YtdjodigimhgklaaGreatDoor

/- A record's bytes, and the walk of the function that makes them. -/
namespace Go.Proofs.YtdjodigimhgklaaGreatDoor
open Go.RowKit

/-- the hash of bytes, as a number -/
def hashN (l : List UInt8) : Nat := (hashTo l l.length).toNat
theorem hashN_eq (l : List UInt8) : ((hashN l : Nat) : Int) = hashTo l l.length := by
  have := hashTo_lo l l.length
  unfold hashN; omega
theorem hashN_lt (l : List UInt8) : hashN l < 18446744073709551616 := by
  have := hashTo_hi l l.length
  have := hashTo_lo l l.length
  unfold hashN; omega
/-- a record's bytes -/
def recB (l : List UInt8) : List UInt8 := short l.length ++ (l ++ wide (hashN l))
theorem wide_len (x : Nat) : (wide x).length = 8 := wideTo_len x 8
theorem recB_len (l : List UInt8) : (recB l).length = (short l.length).length + l.length + 8 := by
  unfold recB; rw [List.length_append, List.length_append, wide_len]; omega
theorem recB_pos (l : List UInt8) : 9 + l.length ≤ (recB l).length ∧ (recB l).length ≤ l.length + 18 := by
  have h1 := shortF_pos 9 l.length
  have h2 := short_len l.length
  rw [recB_len]
  unfold short at *
  omega

theorem ownsRow_up {w : World} {B B' n : Nat} {v : Value} {xs : List Value} (h : w.ownsRow B' 5 1 v n xs) (hB : B ≤ B') : w.ownsRow B 5 1 v n xs := by
  refine ⟨h.1, ?_⟩
  rcases h.2 with h0 | ⟨g, cap, cur, rfl, h1, h2⟩
  · exact .inl h0
  · exact .inr ⟨g, cap, cur, rfl, by omega, h2⟩

theorem hash_nat (a : Option Addr) (n c : Nat) (l : List UInt8) (w : World) (hb : Bytes w a n l) (hm : n ≤ maxLen) :
    Calls Tryz.prog 112 #[.slice a n c] w fun e w' => e = .returned (.int .u64 (hashN l)) ∧ w' = w := by
  rw [hashN_eq, hb.1]
  exact hash_any a n c l w hb hm

set_option maxHeartbeats 1000000 in
theorem form_any (a : Option Addr) (n c : Nat) (l : List UInt8) (w : World) (hb : Bytes w a n l) (hn : n ≤ 140737488355328) :
    Calls Tryz.prog 131 #[.slice a n c] w fun e w' => ∃ g c', e = .returned (.slice (some ⟨g, 0, none⟩) (recB l).length c') ∧
      w'.ownsRow w.heap.size 5 1 (.slice (some ⟨g, 0, none⟩) (recB l).length c') (recB l).length (cellsOf (recB l)) ∧ Below w.heap.size w w' := by
  have hrs := run_string w a n c l hb
  have hnilB : Bytes w none 0 [] := ⟨rfl, fun h => absurd h (by omega)⟩
  have hx1 : Calls Tryz.prog 167 #[.slice none 0 0, .string ⟨l.toArray⟩] w fun e w' => ∃ g m c, Hid (m + 8 = (recB l).length ∧ m ≤ 281474976710640) ∧ e = .returned (.slice (some ⟨g, 0, none⟩) m c) ∧
      w'.ownsRow w.heap.size 5 1 (.slice (some ⟨g, 0, none⟩) m c) m (cellsOf (short l.length ++ l)) ∧ w.grownBy w' none := by
    have hs := short_len l.length
    have hl := hb.1
    refine (putText_any none 0 0 ⟨l.toArray⟩ [] w hnilB (by show 0 + l.length ≤ _; omega)).mono ?_
    rintro e w' ⟨g, m, c1, hm, he, hown, hg⟩
    have hm' : m = 0 + (short l.length).length + l.length := hm
    exact ⟨g, m, c1, ⟨by rw [recB_len]; omega, by omega⟩, he, hown, hg⟩
  go_enter Tryz.func131, Tryz.ntmps131
  go_wp2_with fail
  refine hx1.mono ?_
  rintro e w1 ⟨g, m, c1, hm, rfl, hown1, hg1⟩
  have hB1 : Below w.heap.size w w1 := (Below.refl _ _).grown hg1 (Nat.le_refl _) (by simp)
  have hb1 : Bytes w1 a n l := hb.kept hg1 (by simp)
  have hbm := (ownsRow_bytes hown1).1
  clear hb hrs hx1 hown1 hg1
  go_wp2_with fail
  refine (hash_nat a n c l w1 hb1 (by unfold maxLen; omega)).mono ?_
  rintro e w2 ⟨rfl, rfl⟩
  clear hb1
  go_wp2_with fail
  refine (putWord_any (some ⟨g, 0, none⟩) m c1 (hashN l) _ w2 hbm hm.out.2 (hashN_lt l)).mono ?_
  rintro e w3 ⟨g3, c3, rfl, hown3, hg3⟩
  clear hbm
  go_wp2
  go_ret
  have hE2 : (short l.length ++ l) ++ wide (hashN l) = recB l := by unfold recB; rw [List.append_assoc]
  rw [hE2, hm.out.1] at hown3
  exact ⟨g3, c3, by rw [hm.out.1]; rfl, ownsRow_up hown3 hB1.size, hB1.grown hg3 hB1.size (by simp)⟩

end Go.Proofs.YtdjodigimhgklaaGreatDoor

/- The walks of a Reader's Text. -/
namespace Go.Proofs.YtdjodigimhgklaaGreatDoor
open Go.RowKit

set_option maxHeartbeats 1000000 in
theorem textBounds_any (a : Option Addr) (n cap : Nat) (most : Int) (l : List UInt8) (w : World) (hb : Bytes w a n l) (hm : n ≤ maxLen) (hmost : most ≤ 9223372036854775807) :
    Calls Tryz.prog 152 #[.slice a n cap, .int .i64 most] w fun e w' => e = .returned (.tuple #[.int .i64 (txt l most).1, .int .i64 (txt l most).2.1, .int .i64 (txt l most).2.2]) ∧ w' = w := by
  have hmx := hm
  unfold maxLen at hmx
  have hl := hb.1
  by_cases h0 : most < 0
  · rw [txt_arg l most h0]
    go_enter Tryz.func152, Tryz.ntmps152
    go_wp2
    go_ret3
    exact ⟨rfl, rfl⟩
  · have hle := num_le l
    have hfit := num_fits l
    have hpos := num_pos l
    obtain ⟨x, k, er, hnum⟩ : ∃ x k er, num l = (x, k, er) := ⟨_, _, _, rfl⟩
    have T1 := txt_num l most h0
    have T2 := txt_long l most h0
    have T3 := txt_short l most h0
    have T4 := txt_ok l most h0
    rw [hnum] at hle hfit hpos T1 T2 T3 T4
    simp only at hle hfit hpos T1 T2 T3 T4
    rw [hl] at hle T3 T4
    have Hnum : Hid (num l = (x, k, er)) := hnum
    clear hnum
    by_cases her : er = 0
    · subst her
      by_cases hlong : most < x
      · rw [T2 rfl hlong]
        clear T1 T2 T3 T4 hl
        go_enter Tryz.func152, Tryz.ntmps152
        go_wp2_with fail
        refine (shortForm_any a n cap l _ hb hm).mono ?_
        rw [Hnum.out]
        rintro e w1 ⟨rfl, rfl⟩
        go_wp2
        go_ret3
        exact ⟨rfl, rfl⟩
      · by_cases hsh : ((n - k : Nat) : Int) < x
        · rw [T3 rfl hlong hsh]
          clear T1 T2 T3 T4 hl
          have hsub : (n : Int) - (k : Int) = ((n - k : Nat) : Int) := by omega
          go_enter Tryz.func152, Tryz.ntmps152
          go_wp2_with fail
          refine (shortForm_any a n cap l _ hb hm).mono ?_
          rw [Hnum.out]
          rintro e w1 ⟨rfl, rfl⟩
          go_wp2
          go_ret3
          exact ⟨rfl, rfl⟩
        · rw [T4 rfl hlong hsh]
          clear T1 T2 T3 T4 hl
          have hsub : (n : Int) - (k : Int) = ((n - k : Nat) : Int) := by omega
          obtain ⟨X, hX⟩ := Int.eq_ofNat_of_zero_le hfit.1
          subst hX
          go_enter Tryz.func152, Tryz.ntmps152
          go_wp2_with fail
          refine (shortForm_any a n cap l _ hb hm).mono ?_
          rw [Hnum.out]
          rintro e w1 ⟨rfl, rfl⟩
          go_wp2
          go_ret3
          exact ⟨by simp, rfl⟩
    · have hne : (er != 0) = true := by simpa using her
      rw [T1 her]
      clear T1 T2 T3 T4 hl
      go_enter Tryz.func152, Tryz.ntmps152
      go_wp2_with fail
      refine (shortForm_any a n cap l _ hb hm).mono ?_
      rw [Hnum.out]
      rintro e w1 ⟨rfl, rfl⟩
      go_wp2
      go_ret3
      exact ⟨rfl, rfl⟩

theorem text_stuck (w : World) (r g p : Nat) (x most : Int) (l : List UInt8) (h : Rd w r g p x l) (hx : (x != 0) = true) :
    Calls Tryz.prog 115 #[.pointer (some ⟨r, 0, none⟩), .int .i64 most] w fun e w' => e = .returned (.string ⟨#[]⟩) ∧ w' = w := by
  go_enter Tryz.func115, Tryz.ntmps115
  go_wp2_with fail
  refine (stuck_yes _ r x h.c1 hx).mono ?_
  rintro e w1 ⟨rfl, rfl⟩
  go_wp2
  go_ret
  exact ⟨rfl, rfl⟩

set_option maxHeartbeats 400000 in
theorem text_no (w : World) (r g p m : Nat) (most : Int) (l : List UInt8) (h : Rd w r g p 0 l) (hm : l.length = p + m) (hmost : most ≤ 9223372036854775807) (hn : ((txt (l.drop p) most).2.2 != 0) = true) :
    Calls Tryz.prog 115 #[.pointer (some ⟨r, 0, none⟩), .int .i64 most] w fun e w' => e = .returned (.string ⟨#[]⟩) ∧ Rd w' r g p (txt (l.drop p) most).2.2 l ∧ w.grownBy w' (some r) := by
  have hl := h.hl
  have Hm : Hid (l.length = p + m) := hm
  have hml : m ≤ maxLen := by omega
  obtain ⟨f, t, er, htx⟩ : ∃ f t er, txt (l.drop p) most = (f, t, er) := ⟨_, _, _, rfl⟩
  have Htx : Hid (txt (l.drop p) most = (f, t, er)) := htx
  rw [htx] at hn ⊢
  simp only at hn ⊢
  clear hm htx hl
  go_enter Tryz.func115, Tryz.ntmps115
  go_wp2_with fail
  refine (stuck_no _ r h.c1).mono ?_
  rintro e w1 ⟨rfl, rfl⟩
  go_wp2_with fail
  refine (rest_any _ r g p m 0 l h Hm.out).mono ?_
  rintro e w2 ⟨q, j, rfl, hb, rfl⟩
  go_wp2_with fail
  refine (textBounds_any _ m m most (l.drop p) _ (hb.drewN j) hml hmost).mono ?_
  rw [Htx.out]
  rintro e w3 ⟨rfl, rfl⟩
  go_wp2_with fail
  refine (settle_no _ r t _ _ (h.drewN j).c1 (h.drewN j).f1 hn).mono ?_
  rintro e w4 ⟨rfl, rfl⟩
  go_wp2
  go_ret
  exact ⟨rfl, (h.drewN j).setErr _, grownBy_trans (grownBy_drewN _ _ _) (grownBy_setCell _ _ _ _)⟩

theorem Bytes.sub {w : World} {g q m : Nat} {L : List UInt8} (h : Bytes w (some ⟨g, q, none⟩) m L) (f t : Nat) (hft : f ≤ t) (htm : t ≤ m) : Bytes w (some ⟨g, q + f, none⟩) (t - f) ((L.take t).drop f) := by
  have hl := h.1
  refine ⟨by simp; omega, fun h0 => ⟨g, q + f, rfl, fun i hi => ?_⟩⟩
  obtain ⟨b, off, hx, hc⟩ := h.2 (by omega)
  simp only [Option.some.injEq, Addr.mk.injEq, and_true] at hx
  obtain ⟨rfl, rfl⟩ := hx
  rw [bt_drop, bt_take _ _ _ (by omega), Nat.add_assoc]
  exact hc (f + i) (by omega)

set_option maxHeartbeats 400000 in
theorem text_yes (w : World) (r g p m : Nat) (most : Int) (l : List UInt8) (hR : Rd w r g p 0 l) (hm : l.length = p + m) (hmost : most ≤ 9223372036854775807) (hn : (txt (l.drop p) most).2.2 = 0) :
    Calls Tryz.prog 115 #[.pointer (some ⟨r, 0, none⟩), .int .i64 most] w fun e w' => e = .returned (.string ⟨(((l.drop p).take (txt (l.drop p) most).2.1).drop (txt (l.drop p) most).1).toArray⟩) ∧ Rd w' r g (p + (txt (l.drop p) most).2.1) 0 l ∧ w.grownBy w' (some r) := by
  have hl := hR.hl
  have Hm : Hid (l.length = p + m) := hm
  have hml : m ≤ maxLen := by omega
  have hmx : m ≤ 9223372036854775807 := by unfold maxLen at hml; omega
  have hpm : p + m ≤ 9223372036854775807 := by unfold maxLen at hl; omega
  have hbd := txt_bounds (l.drop p) most
  rw [List.length_drop] at hbd
  obtain ⟨f, t, er, htx⟩ : ∃ f t er, txt (l.drop p) most = (f, t, er) := ⟨_, _, _, rfl⟩
  have Htx : Hid (txt (l.drop p) most = (f, t, er)) := htx
  rw [htx] at hn hbd ⊢
  simp only at hn hbd ⊢
  subst hn
  have hft : f ≤ t := hbd.1
  have htm : t ≤ m := by omega
  have i0 : (0 : Int) ≤ (f : Int) := by omega
  have i1 : (f : Int) ≤ (t : Int) := by omega
  have i2 : (t : Int) ≤ (m : Int) := by omega
  clear hm htx hl hbd
  go_enter Tryz.func115, Tryz.ntmps115
  go_wp2_with fail
  refine (stuck_no _ r hR.c1).mono ?_
  rintro e w1 ⟨rfl, rfl⟩
  go_wp2_with fail
  refine (rest_any _ r g p m 0 l hR Hm.out).mono ?_
  rintro e w2 ⟨q, j, rfl, hb, rfl⟩
  go_wp2_with fail
  refine (textBounds_any _ m m most (l.drop p) _ (hb.drewN j) hml hmost).mono ?_
  rw [Htx.out]
  rintro e w3 ⟨rfl, rfl⟩
  go_wp2_with fail
  refine (settle_yes _ r p t (hR.drewN j).c0 (hR.drewN j).f0 (by omega) (by omega) (by omega)).mono ?_
  rintro e w4 ⟨rfl, rfl⟩
  have hbS : Bytes ((w1.drewN j).setCell ⟨r, 0, none⟩ (.int .i64 ((p : Int) + (t : Int)))) (some ⟨g, q, none⟩) m (l.drop p) := (hb.drewN j).kept (grownBy_setCell _ _ _ _) (by simp [hR.ne])
  have hfin : Rd ((w1.drewN j).setCell ⟨r, 0, none⟩ (.int .i64 ((p : Int) + (t : Int)))) r g (p + t) 0 l := (hR.drewN j).setAt (p + t) (by have := Hm.out; omega)
  clear hb
  by_cases hfm : m = f
  · have htf : t - f = 0 := by omega
    have HE : Hid (((l.drop p).take t).drop f = []) := by show _ = []; rw [List.drop_eq_nil_iff]; simp; omega
    have hstr := run_string ((w1.drewN j).setCell ⟨r, 0, none⟩ (.int .i64 ((p : Int) + (t : Int)))) (some ⟨g, q, none⟩) 0 0 [] ⟨rfl, fun h0 => by omega⟩
    go_wp2
    go_ret
    rw [HE.out]
    exact ⟨rfl, hfin, grownBy_trans (grownBy_drewN _ _ _) (grownBy_setCell _ _ _ _)⟩
  · have hstr := run_string ((w1.drewN j).setCell ⟨r, 0, none⟩ (.int .i64 ((p : Int) + (t : Int)))) (some ⟨g, q + f, none⟩) (t - f) (m - f) _ (hbS.sub f t hft htm)
    go_wp2
    go_ret
    exact ⟨rfl, hfin, grownBy_trans (grownBy_drewN _ _ _) (grownBy_setCell _ _ _ _)⟩

end Go.Proofs.YtdjodigimhgklaaGreatDoor
