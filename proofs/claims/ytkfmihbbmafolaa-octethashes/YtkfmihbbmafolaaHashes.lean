/- Proved here: for every slice of bytes, every number and every text the law OctetHashes returns true, and its arguments read as before. No condition. -/
import Derived.Test.YtkfmihbbmafolaaLaw
import Derived.Test.YtkfmihbbmafolaaRefHex
import Derived.Test.YtkfmihbbmafolaaRefHash
namespace Go.Proofs.Ytkfmihbbmafolaa
open Go.ChangeShapes Go.WideShapes Go.ChangeAt Go.RowKit
open Go.ChangeMaps (open_string shut_string)

set_option maxHeartbeats 1000000 in
theorem octetHashes_walk (a : Option Addr) (n cap x : Nat) (s : ByteArray) (l : List UInt8) (w : World) (hb : Bytes w a n l) (hm : n ≤ 140737488351232) (hx : x < 18446744073709551616) :
    Calls Try.prog 4 #[.slice a n cap, .int .u64 x, .string s] w fun e w' => e = .returned (.bool true) ∧ Below w.heap.size w w' := by
  have hml : n ≤ maxLen := by unfold maxLen; omega
  by_cases hok : hexOK s.data.toList
  · have Hok : Hid (hexOK s.data.toList) := hok
    clear hok
    go_enter Try.func4, Try.ntmps4
    go_wp2_with fail
    refine (wakes_any _).mono ?_
    rintro e w1 ⟨rfl, B1⟩
    go_wp2_with fail
    refine (unhex_yes s _ Hok.out).mono ?_
    rintro e w2 ⟨rfl, rfl⟩
    go_wp2_with fail
    refine (refUnhex_yes s _ Hok.out).mono ?_
    rintro e w3 ⟨rfl, rfl⟩
    generalize unhexTo s.data.toList 16 = y
    go_wp2_with fail
    refine (hash_any a n cap l _ (hb.below B1) hml).mono ?_
    rintro e w4 ⟨rfl, rfl⟩
    go_wp2_with fail
    refine (refHash_any a n cap l _ (hb.below B1) hml).mono ?_
    rintro e w5 ⟨rfl, rfl⟩
    generalize hashTo l n = h
    go_wp2_with fail
    refine (hex_any x _ hx).mono ?_
    rintro e w6 ⟨rfl, B2⟩
    go_wp2_with fail
    refine (refHex_any x _ hx).mono ?_
    rintro e w7 ⟨rfl, B3⟩
    generalize hexOf x = z
    go_wp2_with fail
    refine (wakes_any _).mono ?_
    rintro e w8 ⟨rfl, B4⟩
    go_wp2
    go_ret
    exact ⟨rfl, below_more (below_more (below_more B1 B2) B3) B4⟩
  · have Hok : Hid (¬ hexOK s.data.toList) := hok
    clear hok
    go_enter Try.func4, Try.ntmps4
    go_wp2_with fail
    refine (wakes_any _).mono ?_
    rintro e w1 ⟨rfl, B1⟩
    go_wp2_with fail
    refine (unhex_no s _ Hok.out).mono ?_
    rintro e w2 ⟨rfl, rfl⟩
    go_wp2_with fail
    refine (refUnhex_no s _ Hok.out).mono ?_
    rintro e w3 ⟨rfl, rfl⟩
    go_wp2_with fail
    refine (hash_any a n cap l _ (hb.below B1) hml).mono ?_
    rintro e w4 ⟨rfl, rfl⟩
    go_wp2_with fail
    refine (refHash_any a n cap l _ (hb.below B1) hml).mono ?_
    rintro e w5 ⟨rfl, rfl⟩
    generalize hashTo l n = h
    go_wp2_with fail
    refine (hex_any x _ hx).mono ?_
    rintro e w6 ⟨rfl, B2⟩
    go_wp2_with fail
    refine (refHex_any x _ hx).mono ?_
    rintro e w7 ⟨rfl, B3⟩
    generalize hexOf x = z
    go_wp2_with fail
    refine (wakes_any _).mono ?_
    rintro e w8 ⟨rfl, B4⟩
    go_wp2
    go_ret
    exact ⟨rfl, below_more (below_more (below_more B1 B2) B3) B4⟩

set_option maxRecDepth 100000 in
theorem octetHashes_lifted (os : Os) (started : os.Started) (H : Type) (enc : TypeId × Value → H) :
    ReturnsInHanded {} Try.checked os 4 .any (Rows.octetHashesSpec.pre6 enc Try.prog Try.f4 Rows.octetHashesRow.domain false) (Rows.octetHashesSpec.post enc Try.prog Try.f4 false true false false) := by
  refine returnsInHanded_of_change_sized (C := Try.checked) own started (by kernel_rfl) Try.func4
    (ChangeSpec.witness6 (enc := enc) (C := Try.checked) false ⟨#[], #[.slice none 0 0, .int .u64 0, .string ⟨#[]⟩], []⟩ 8 (by kernel_rfl) (by kernel_rfl) (by kernel_rfl) (by kernel_rfl)) ?_
  intro W base args ds gs before hval0 hW _ hsz0 _
  have hsz : (DataW.weightsEach Try.prog (Try.f4.params.toList ++ Rows.octetHashesSpec.plain.varTypes Try.prog) (ds ++ gs)).all (· ≤ reachBytes) = true := hsz0
  have hval : ∀ (j : Nat) t v, Try.f4.params[j]? = some t → args[j]? = some v → Value.okWide Try.prog W .any base t v := hval0
  have hW' := hW
  obtain ⟨p, q, hA0, hV, rfl, _, _⟩ := hW
  have hA : DataW.TrodAll enc Try.prog W 0 (fun _ => true) true Try.f4.params.toList args.toList ds p := hA0
  rw [Try.params4] at hA hval hsz
  obtain ⟨v0, vs0, d0, ds0, p0, q0, hargs, rfl, rfl, h0, r0⟩ := trodAll_cons hA
  obtain ⟨v1, vs1, d1, ds1, p1, q1, rfl, rfl, rfl, h1, r1⟩ := trodAll_cons r0
  obtain ⟨v2, vs2, d2, ds2, p2, q2, rfl, rfl, rfl, h2, r2⟩ := trodAll_cons r1
  obtain ⟨rfl, rfl, rfl⟩ := trodAll_nil r2
  obtain rfl : args = #[v0, v1, v2] := by cases args; simp_all
  obtain ⟨rfl, rfl⟩ := trodVars_none hV
  have k0 := h0
  have lt0 : ∀ x ∈ p0, x.block < W.heap.size := by obtain ⟨m, hm⟩ := k0; exact DataW.trod_lt m _ _ _ hm
  obtain ⟨a0, n0, cap0, l0, rfl, b0, c0, hd⟩ := bytes_arg (hval 0 22 v0 rfl rfl) h0
  have hn0 : n0 ≤ 140737488351232 := by
    rcases hd with rfl | ⟨el, sp, rfl, hle⟩
    · omega
    · have := sized_slice hsz (j := 0) (t := 22) (e := 5) rfl rfl Try.underlying22
      rw [bytes5] at this
      simp only [reachBytes] at this
      omega
  obtain ⟨a1, rfl, rfl, rfl, w1⟩ := open_int Try.underlying23 (hval 1 23 v1 rfl rfl) h1
  obtain ⟨a2, rfl, rfl, rfl, w2⟩ := open_string Try.underlying9 (hval 2 9 v2 rfl rfl) h2
  have hx1 := bounds_u64 w1
  obtain ⟨x, rfl⟩ := Int.eq_ofNat_of_zero_le hx1.1
  clear hA0 hval0 hsz0 hsz
  refine (octetHashes_walk a0 n0 cap0 x a2 l0 W b0 hn0 (by omega)).mono fun e W' ⟨he, bel⟩ => ?_
  subst he
  exact ⟨_, rfl, _, _, _, [], _, [], hW', trodAll_mk1 (shut_bool Try.underlying4 _), trodAll_cons_mk (Below.trod laidOut (by kernel_rfl) (of_decide_eq_true (by kernel_rfl)) k0 bel lt0) (trodAll_cons_mk (shut_int Try.underlying23 w1) (trodAll_cons_mk (shut_string Try.underlying9 w2) trodAll_mk0)), rfl, bel.frame _, fun h => by cases h⟩

theorem octetHashes_holds : Rows.OctetHashesSaid :=
  OpenClaim.holds_of_wide 4 Try.f4 rfl rfl rfl rfl rfl rfl rfl ⟨rfl, rfl, rfl, rfl, rfl⟩ rfl rfl rfl rfl rfl (by kernel_rfl) Try.func4 (by kernel_rfl)
    (of_decide_eq_true (by kernel_rfl)) (by unfold Func.isWrapper; first | (rw [if_pos (by decide +kernel)]; kernel_rfl) | (rw [if_neg (by decide +kernel)]; exact ⟨rfl, rfl⟩))
    (fun os started H enc _ => octetHashes_lifted os started H enc)
#print axioms octetHashes_holds

end Go.Proofs.Ytkfmihbbmafolaa
