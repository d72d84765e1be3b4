/- Proved here: for every slice of bytes, every number and every text the law OctetPuts returns true, and its arguments read as before. No condition. -/
import Derived.Test.YtkfmihbbmafolaaLaw
import Derived.Test.YtkfmihbbmafolaaRefPut
import Derived.Test.YtkfmihbbmafolaaSame
namespace Go.Proofs.Ytkfmihbbmafolaa
open Go.ChangeShapes Go.WideShapes Go.ChangeAt Go.RowKit
open Go.ChangeMaps (open_string shut_string)

theorem bytes_none' (w : World) : Bytes w none 0 [] := ⟨rfl, fun h => by omega⟩
theorem below_of_grown {w w' : World} (h : w.grownBy w' none) : Below w.heap.size w w' := ⟨h.os, h.tape, h.output, h.size, fun k hk => h.block k hk (by simp)⟩

theorem both_b (a b : Option Addr) (n m c d : Nat) (l k : List UInt8) (w : World) (ha : Bytes w a n l) (hb : Bytes w b m k) (hm : n + m ≤ 281474976710656) :
    Calls Try.prog 10 #[.slice a n c, .slice b m d] w fun e w' => ∃ ad, e = .returned (.slice ad (n + m) (n + m)) ∧ Bytes w' ad (n + m) (l ++ k) ∧ Below w.heap.size w w' :=
  (both_any a b n m c d l k w ha hb hm).mono fun _ _ ⟨h1, h2, h3⟩ => ⟨_, h1, (ownsRow_bytes h2).1, below_of_grown h3⟩
theorem putUint_b (a : Option Addr) (n cap x : Nat) (l : List UInt8) (w : World) (hb : Bytes w a n l) (hn : n ≤ 281474976710640) (hx : x < 18446744073709551616) :
    Calls Try.prog 11 #[.slice a n cap, .int .u64 x] w fun e w' => ∃ ad m c, e = .returned (.slice ad m c) ∧ Bytes w' ad m (l ++ short x) ∧ Below w.heap.size w w' :=
  (putUint_any a n cap x l w hb hn hx).mono fun _ _ ⟨_, _, h1, h2, h3⟩ => ⟨_, _, _, h1, (ownsRow_bytes h2).1, below_of_grown h3⟩
theorem putWord_b (a : Option Addr) (n cap x : Nat) (l : List UInt8) (w : World) (hb : Bytes w a n l) (hn : n ≤ 281474976710640) (hx : x < 18446744073709551616) :
    Calls Try.prog 12 #[.slice a n cap, .int .u64 x] w fun e w' => ∃ ad m c, e = .returned (.slice ad m c) ∧ Bytes w' ad m (l ++ wide x) ∧ Below w.heap.size w w' :=
  (putWord_any a n cap x l w hb hn hx).mono fun _ _ ⟨_, _, h1, h2, h3⟩ => ⟨_, _, _, h1, (ownsRow_bytes h2).1, below_of_grown h3⟩
theorem putText_b (a : Option Addr) (n cap : Nat) (s : ByteArray) (l : List UInt8) (w : World) (hb : Bytes w a n l) (hn : n + s.size ≤ 281474976710640) :
    Calls Try.prog 13 #[.slice a n cap, .string s] w fun e w' => ∃ ad m c, e = .returned (.slice ad m c) ∧ Bytes w' ad m (l ++ (short s.size ++ s.data.toList)) ∧ Below w.heap.size w w' :=
  (putText_any a n cap s l w hb hn).mono fun _ _ ⟨_, _, _, _, h1, h2, h3⟩ => ⟨_, _, _, h1, (ownsRow_bytes h2).1, below_of_grown h3⟩
theorem refUint_b (x : Nat) (w : World) (hx : x < 18446744073709551616) :
    Calls Try.prog 15 #[.int .u64 x] w fun e w' => ∃ ad m c, e = .returned (.slice ad m c) ∧ m ≤ 10 ∧ Bytes w' ad m (short x) ∧ Below w.heap.size w w' :=
  (refUint_any x w hx).mono fun _ _ ⟨_, h1, h2, h3⟩ => by
    obtain ⟨ad, c, rfl, hb, hl, _⟩ := ownsRow_open h2
    exact ⟨ad, _, c, h1, short_len x, hb, h3⟩
theorem refText_b (s : ByteArray) (w : World) (hs : s.size ≤ 140737488351232) :
    Calls Try.prog 17 #[.string s] w fun e w' => ∃ ad m c, e = .returned (.slice ad m c) ∧ m ≤ 10 + s.size ∧ Bytes w' ad m (short s.size ++ s.data.toList) ∧ Below w.heap.size w w' :=
  (refText_any s w hs).mono fun _ _ ⟨_, h1, h2, h3⟩ => by
    obtain ⟨ad, c, rfl, hb, hl, _⟩ := ownsRow_open h2
    have := short_len s.size
    exact ⟨ad, _, c, h1, by omega, hb, h3⟩

set_option maxHeartbeats 1000000 in
theorem octetPuts_walk (a : Option Addr) (n cap x : Nat) (s : ByteArray) (l : List UInt8) (w : World) (hb : Bytes w a n l) (hm : n ≤ 140737488351232) (hx : x < 18446744073709551616) (hs : s.size ≤ 140737488351232) :
    Calls Try.prog 3 #[.slice a n cap, .int .u64 x, .string s] w fun e w' => e = .returned (.bool true) ∧ Below w.heap.size w w' := by
  go_enter Try.func3, Try.ntmps3
  go_wp2_with fail
  refine (wakes_any _).mono ?_
  rintro e w1 ⟨rfl, B1⟩
  have hb1 := hb.below B1
  clear hb
  go_wp2_with fail
  refine (both_b a none n 0 cap 0 l [] w1 hb1 (bytes_none' _) (by omega)).mono ?_
  rintro e w2 ⟨ac, rfl, hc2, B2⟩
  rw [Nat.add_zero, List.append_nil] at hc2
  have hb2 := hb1.below B2
  have B2' := below_more B1 B2
  clear hb1 B1 B2
  go_wp2_with fail
  refine (putUint_b a n cap x l w2 hb2 (by omega) hx).mono ?_
  rintro e w3 ⟨au, nu, cu, rfl, hu3, B3⟩
  have hb3 := hb2.below B3
  have hc3 := hc2.below B3
  have B3' := below_more B2' B3
  clear hb2 hc2 B2' B3
  go_wp2_with fail
  refine (putWord_b a n cap x l w3 hb3 (by omega) hx).mono ?_
  rintro e w4 ⟨aw, nw, cw, rfl, hw4, B4⟩
  have hb4 := hb3.below B4
  have hc4 := hc3.below B4
  have hu4 := hu3.below B4
  have B4' := below_more B3' B4
  clear hb3 hc3 hu3 B3' B4
  go_wp2_with fail
  refine (putText_b a n cap s l w4 hb4 (by omega)).mono ?_
  rintro e w5 ⟨ax, nx, cx, rfl, hx5, B5⟩
  have hb5 := hb4.below B5
  have hc5 := hc4.below B5
  have hu5 := hu4.below B5
  have hw5 := hw4.below B5
  have B5' := below_more B4' B5
  clear hb4 hc4 hu4 hw4 B4' B5
  go_wp2_with fail
  refine (refUint_b x w5 hx).mono ?_
  rintro e w6 ⟨a6, n6, c6, rfl, l6, h6, B6⟩
  have hb6 := hb5.below B6
  have hc6 := hc5.below B6
  have hu6 := hu5.below B6
  have hw6 := hw5.below B6
  have hx6 := hx5.below B6
  have B6' := below_more B5' B6
  clear hb5 hc5 hu5 hw5 hx5 B5' B6
  go_wp2_with fail
  refine (both_b ac a6 n n6 _ c6 l (short x) w6 hc6 h6 (by omega)).mono ?_
  rintro e w7 ⟨a7, rfl, h7, B7⟩
  have hb7 := hb6.below B7
  have hc7 := hc6.below B7
  have hu7 := hu6.below B7
  have hw7 := hw6.below B7
  have hx7 := hx6.below B7
  have B7' := below_more B6' B7
  clear hb6 hc6 hu6 hw6 hx6 B6' B7
  clear h6
  go_wp2_with fail
  refine (same_yes _ au a7 nu _ cu _ _ _ hu7 h7 rfl).mono ?_
  rintro e w8 ⟨rfl, rfl⟩
  clear h7 hu7
  go_wp2_with fail
  refine (refWord_any x w8 hx).mono ?_
  rintro e w9 ⟨rfl, h9, B9⟩
  have hb9 := hb7.below B9
  have hc9 := hc7.below B9
  have hw9 := hw7.below B9
  have hx9 := hx7.below B9
  have B9' := below_more B7' B9
  clear hb7 hc7 hw7 hx7 B7' B9
  go_wp2_with fail
  refine (both_b ac _ n 8 _ 8 l (wide x) w9 hc9 h9 (by omega)).mono ?_
  rintro e w10 ⟨a10, rfl, h10, B10⟩
  have hb10 := hb9.below B10
  have hc10 := hc9.below B10
  have hw10 := hw9.below B10
  have hx10 := hx9.below B10
  have B10' := below_more B9' B10
  clear hb9 hc9 hw9 hx9 B9' B10
  clear h9
  go_wp2_with fail
  refine (same_yes _ aw a10 nw _ cw _ _ _ hw10 h10 rfl).mono ?_
  rintro e w11 ⟨rfl, rfl⟩
  clear h10 hw10
  go_wp2_with fail
  refine (refText_b s w11 hs).mono ?_
  rintro e w12 ⟨a12, n12, c12, rfl, l12, h12, B12⟩
  have hb12 := hb10.below B12
  have hc12 := hc10.below B12
  have hx12 := hx10.below B12
  have B12' := below_more B10' B12
  clear hb10 hc10 hx10 B10' B12
  go_wp2_with fail
  refine (both_b ac a12 n n12 _ c12 l _ w12 hc12 h12 (by omega)).mono ?_
  rintro e w13 ⟨a13, rfl, h13, B13⟩
  have hb13 := hb12.below B13
  have hc13 := hc12.below B13
  have hx13 := hx12.below B13
  have B13' := below_more B12' B13
  clear hb12 hc12 hx12 B12' B13
  clear h12
  go_wp2_with fail
  refine (same_yes _ ax a13 nx _ cx _ _ _ hx13 h13 rfl).mono ?_
  rintro e w14 ⟨rfl, rfl⟩
  clear h13 hx13
  go_wp2_with fail
  refine (same_yes _ a ac n n cap n l l hb13 hc13 rfl).mono ?_
  rintro e w15 ⟨rfl, rfl⟩
  go_wp2_with fail
  refine (wakes_any _).mono ?_
  rintro e w16 ⟨rfl, B16⟩
  go_wp2
  go_ret
  exact ⟨rfl, below_more B13' B16⟩

set_option maxRecDepth 100000 in
theorem octetPuts_lifted (os : Os) (started : os.Started) (H : Type) (enc : TypeId × Value → H) :
    ReturnsInHanded {} Try.checked os 3 .any (Rows.octetPutsSpec.pre6 enc Try.prog Try.f3 Rows.octetPutsRow.domain false) (Rows.octetPutsSpec.post enc Try.prog Try.f3 false true false false) := by
  refine returnsInHanded_of_change_sized (C := Try.checked) own started (by kernel_rfl) Try.func3
    (ChangeSpec.witness6 (enc := enc) (C := Try.checked) false ⟨#[], #[.slice none 0 0, .int .u64 0, .string ⟨#[]⟩], []⟩ 8 (by kernel_rfl) (by kernel_rfl) (by kernel_rfl) (by kernel_rfl)) ?_
  intro W base args ds gs before hval0 hW _ hsz0 _
  have hsz : (DataW.weightsEach Try.prog (Try.f3.params.toList ++ Rows.octetPutsSpec.plain.varTypes Try.prog) (ds ++ gs)).all (· ≤ reachBytes) = true := hsz0
  have hval : ∀ (j : Nat) t v, Try.f3.params[j]? = some t → args[j]? = some v → Value.okWide Try.prog W .any base t v := hval0
  have hW' := hW
  obtain ⟨p, q, hA0, hV, rfl, _, _⟩ := hW
  have hA : DataW.TrodAll enc Try.prog W 0 (fun _ => true) true Try.f3.params.toList args.toList ds p := hA0
  rw [Try.params3] at hA hval hsz
  obtain ⟨v0, vs0, d0, ds0, p0, q0, hargs, rfl, rfl, h0, r0⟩ := trodAll_cons hA
  obtain ⟨v1, vs1, d1, ds1, p1, q1, rfl, rfl, rfl, h1, r1⟩ := trodAll_cons r0
  obtain ⟨v2, vs2, d2, ds2, p2, q2, rfl, rfl, rfl, h2, r2⟩ := trodAll_cons r1
  obtain ⟨rfl, rfl, rfl⟩ := trodAll_nil r2
  obtain rfl : args = #[v0, v1, v2] := by cases args; simp_all
  obtain ⟨rfl, rfl⟩ := trodVars_none hV
  have k0 := h0
  have lt0 : ∀ x ∈ p0, x.block < W.heap.size := by obtain ⟨m, hm⟩ := k0; exact DataW.trod_lt m _ _ _ hm
  obtain ⟨a0, n0, cap0, l0, rfl, b0, c0, hd⟩ := bytes_arg (hval 0 22 v0 rfl rfl) h0
  have hn0 : n0 ≤ 140737488351232 := by
    rcases hd with rfl | ⟨el, sp, rfl, hle⟩
    · omega
    · have := sized_slice hsz (j := 0) (t := 22) (e := 5) rfl rfl Try.underlying22
      rw [bytes5] at this
      simp only [reachBytes] at this
      omega
  obtain ⟨a1, rfl, rfl, rfl, w1⟩ := open_int Try.underlying23 (hval 1 23 v1 rfl rfl) h1
  obtain ⟨a2, rfl, rfl, rfl, w2⟩ := open_string Try.underlying9 (hval 2 9 v2 rfl rfl) h2
  have hn2 : a2.size ≤ 140737488351232 := by
    have := sized_string hsz (j := 2) (t := 9) rfl rfl
    simp only [reachBytes] at this
    simpa using this
  have hx1 := bounds_u64 w1
  obtain ⟨x, rfl⟩ := Int.eq_ofNat_of_zero_le hx1.1
  clear hA0 hval0 hsz0 hsz
  refine (octetPuts_walk a0 n0 cap0 x a2 l0 W b0 hn0 (by omega) hn2).mono fun e W' ⟨he, bel⟩ => ?_
  subst he
  exact ⟨_, rfl, _, _, _, [], _, [], hW', trodAll_mk1 (shut_bool Try.underlying4 _), trodAll_cons_mk (Below.trod laidOut (by kernel_rfl) (of_decide_eq_true (by kernel_rfl)) k0 bel lt0) (trodAll_cons_mk (shut_int Try.underlying23 w1) (trodAll_cons_mk (shut_string Try.underlying9 w2) trodAll_mk0)), rfl, bel.frame _, fun h => by cases h⟩

theorem octetPuts_holds : Rows.OctetPutsSaid :=
  OpenClaim.holds_of_wide 3 Try.f3 rfl rfl rfl rfl rfl rfl rfl ⟨rfl, rfl, rfl, rfl, rfl⟩ rfl rfl rfl rfl rfl (by kernel_rfl) Try.func3 (by kernel_rfl)
    (of_decide_eq_true (by kernel_rfl)) (by unfold Func.isWrapper; first | (rw [if_pos (by decide +kernel)]; kernel_rfl) | (rw [if_neg (by decide +kernel)]; exact ⟨rfl, rfl⟩))
    (fun os started H enc _ => octetPuts_lifted os started H enc)
#print axioms octetPuts_holds

end Go.Proofs.Ytkfmihbbmafolaa
