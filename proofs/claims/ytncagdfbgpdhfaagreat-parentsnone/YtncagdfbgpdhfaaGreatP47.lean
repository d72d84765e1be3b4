import Derived.Test.YtncagdfbgpdhfaaGreatP44
import Derived.Test.YtncagdfbgpdhfaaGreatP37
import Derived.Test.YtncagdfbgpdhfaaGreatP46
import Derived.Test.YtncagdfbgpdhfaaGreatRows
import Derived.ProofKit
import Derived.OpenShut
import Derived.ShutString
import Derived.ChangeOld
import Derived.SizedLaws
/- The walks of Apart and Relation. -/
namespace Go.Proofs.YtncagdfbgpdhfaaGreat
open Go.RowKit Go.Shelf Go.Maps

attribute [local go_sem] Oper.semAt_some

theorem apart_err (w : World) (sv : Option Addr) (a b : Int) (ha : 0 ≤ a ∧ a ≤ 18446744073709551615) (hb : 0 ≤ b ∧ b ≤ 18446744073709551615) (er : Int) (he : er ≠ 0) (hord : ∀ W' ad, Below w.heap.size w W' → Ids W' ad 2 [a, b] → Calls Tryz.prog 26 #[.pointer sv, .slice ad 2 2] W' fun e w' => e = .returned (.tuple #[.slice none 0 0, .int .i64 er]) ∧ Below W'.heap.size W' w') :
    Calls Tryz.prog 19 #[.pointer sv, .int .u64 a, .int .u64 b] w fun e w' => e = .returned (.tuple #[.int .i64 0, .int .i64 0, .int .i64 er]) ∧ Below w.heap.size w w' := by
  have hof := ofPair_err w sv a b ha hb er he hord
  have z1 : (er == 0) = false := beq_false_of_ne he
  clear hord ha hb
  go_enter Tryz.func19, Tryz.ntmps19
  go_wp2_with (go_at_call 41; refine hof.mono ?_; clear hof; rintro e w1 ⟨rfl, hB1⟩; have H1 : Hid (Below w.heap.size w (w1.alloc (.cells #[.slice none 0 0, .map none] 90))) := hB1.alloc hB1.size _; clear hB1)
  refine bodyPost_ret (v := .tuple #[.int .i64 0, .int .i64 0, .int .i64 er]) (by simp [results, Tryz.results19, go_sem]) rfl ?_
  exact ⟨rfl, H1.out⟩
theorem relation_err (w : World) (sv : Option Addr) (a b : Int) (ha : 0 ≤ a ∧ a ≤ 18446744073709551615) (hb : 0 ≤ b ∧ b ≤ 18446744073709551615) (er : Int) (he : er ≠ 0) (hord : ∀ W' ad, Below w.heap.size w W' → Ids W' ad 2 [a, b] → Calls Tryz.prog 26 #[.pointer sv, .slice ad 2 2] W' fun e w' => e = .returned (.tuple #[.slice none 0 0, .int .i64 er]) ∧ Below W'.heap.size W' w') :
    Calls Tryz.prog 20 #[.pointer sv, .int .u64 a, .int .u64 b] w fun e w' => e = .returned (.tuple #[.int .i64 0, .int .i64 er]) ∧ Below w.heap.size w w' := by
  have hof := ofPair_err w sv a b ha hb er he hord
  have z1 : (er == 0) = false := beq_false_of_ne he
  clear hord ha hb
  go_enter Tryz.func20, Tryz.ntmps20
  go_wp2_with (go_at_call 41; refine hof.mono ?_; clear hof; rintro e w1 ⟨rfl, hB1⟩; have H1 : Hid (Below w.heap.size w (w1.alloc (.cells #[.slice none 0 0, .map none] 90))) := hB1.alloc hB1.size _; clear hB1)
  go_ret2
  exact ⟨rfl, H1.out⟩

end Go.Proofs.YtncagdfbgpdhfaaGreat

/- Proved here: for every two ids the law ParentsNone returns true. No condition. -/
namespace Go.Proofs.YtncagdfbgpdhfaaGreat
open Go.RowKit Go.Maps
open Go.ChangeShapes Go.WideShapes Go.ChangeAt

attribute [local go_sem] Oper.semAt_some

theorem onil (W : World) (v : Value) : Calls Tryz.prog 26 #[.pointer none, v] W fun e w' => e = .returned (.tuple #[.slice none 0 0, .int .i64 1]) ∧ Below W.heap.size W w' :=
  (order_nil W v).mono fun e w' h => ⟨h.1, by rw [h.2]; exact Below.refl _ _⟩
theorem lit_idP1 (W : World) (x : Int) : Ids (W.alloc (.cells #[.int .u64 x] 31)) (some ⟨W.heap.size, 0, none⟩) 1 [x] := by
  have hb := World.alloc_heap_new W (.cells #[.int .u64 x] 31)
  generalize W.alloc (.cells #[.int .u64 x] 31) = W' at hb
  refine ⟨rfl, fun _ => ⟨W.heap.size, 0, rfl, fun i z hi => ?_⟩⟩
  match i, hi with
  | 0, hi => simp at hi; subst hi; simp [World.cell?, hb]
set_option maxRecDepth 100000 in
set_option maxHeartbeats 4000000 in
theorem parentsNone_walk (a b : Int) (ha : 0 ≤ a ∧ a ≤ 18446744073709551615) (hb : 0 ≤ b ∧ b ≤ 18446744073709551615) (w : World) : Calls Tryz.prog 5 #[.int .u64 a, .int .u64 b] w fun e w' => e = .returned (.bool true) ∧ Below w.heap.size w w' := by
  have HA : Hid ((0 ≤ a ∧ a ≤ 18446744073709551615) ∧ (0 ≤ b ∧ b ≤ 18446744073709551615)) := ⟨ha, hb⟩
  clear ha hb
  have hw1 := wakes12_any w
  go_enter Tryz.func5, Tryz.ntmps5
  go_upto_region 3 with (go_at_call 9; refine hw1.mono ?_; clear hw1; rintro e w1 ⟨rfl, hB⟩; have H1 : Hid (Below w.heap.size w w1) := hB; clear hB)
  have h3 := reduce_err (w1.alloc (.cells #[.int .u64 a, .int .u64 b] 31)) none (some ⟨w1.heap.size, 0, none⟩) 2 2 [a, b] (lit_ids w1 a b (0, 0)) (fun x hx => by simp at hx; rcases hx with rfl | rfl; exact HA.out.1; exact HA.out.2) (by omega) 1 (by decide) (fun W' _ => onil W' _)
  go_upto_region 4 with (go_at_call 14; refine h3.mono ?_; clear h3; rintro e w2 ⟨rfl, hB⟩; have H2 : Hid (Below w.heap.size w w2) := (H1.out.alloc H1.out.size _).trans (hB.mono (H1.out.alloc H1.out.size _).size); clear hB)
  have h4 := reduced_err (w2.alloc (.cells #[.int .u64 a] 31)) none (some ⟨w2.heap.size, 0, none⟩) 1 1 [a] (lit_idP1 w2 a) (fun x hx => by simp at hx; subst hx; exact HA.out.1) (by omega) 1 (by decide) (fun W' _ => onil W' _)
  go_upto_region 5 with (go_at_call 16; refine h4.mono ?_; clear h4; rintro e w3 ⟨rfl, hB⟩; have H3 : Hid (Below w.heap.size w w3) := (H2.out.alloc H2.out.size _).trans (hB.mono (H2.out.alloc H2.out.size _).size); clear hB)
  have h5 := bases_err w3 none a b HA.out.1 HA.out.2 1 (by decide) (fun W' ad _ _ => onil W' _)
  go_upto_region 6 with (go_at_call 17; refine h5.mono ?_; clear h5; rintro e w4 ⟨rfl, hB⟩; have H4 : Hid (Below w.heap.size w w4) := H3.out.trans (hB.mono H3.out.size); clear hB)
  have h6 := base_err w4 none a b HA.out.1 HA.out.2 1 (by decide) (fun W' ad _ _ => onil W' _)
  go_upto_region 7 with (go_at_call 18; refine h6.mono ?_; clear h6; rintro e w5 ⟨rfl, hB⟩; have H5 : Hid (Below w.heap.size w w5) := H4.out.trans (hB.mono H4.out.size); clear hB)
  have h7 := apart_err w5 none a b HA.out.1 HA.out.2 1 (by decide) (fun W' ad _ _ => onil W' _)
  go_upto_region 8 with (go_at_call 19; refine h7.mono ?_; clear h7; rintro e w6 ⟨rfl, hB⟩; have H6 : Hid (Below w.heap.size w w6) := H5.out.trans (hB.mono H5.out.size); clear hB)
  have h8 := relation_err w6 none a b HA.out.1 HA.out.2 1 (by decide) (fun W' ad _ _ => onil W' _)
  go_upto_region 9 with (go_at_call 20; refine h8.mono ?_; clear h8; rintro e w7 ⟨rfl, hB⟩; have H7 : Hid (Below w.heap.size w w7) := H6.out.trans (hB.mono H6.out.size); clear hB)
  have hw2 := wakes12_any w7
  have x0 : ∀ w, (Instr.index 55 (.agg #[.int .i64 1, .int .i64 1, .int .i64 1, .int .i64 1, .int .i64 1, .int .i64 1]) (.int .i64 0)).run Tryz.prog w = .ok (.int .i64 1) w := fun _ => by kernel_rfl
  have x1 : ∀ w, (Instr.index 55 (.agg #[.int .i64 1, .int .i64 1, .int .i64 1, .int .i64 1, .int .i64 1, .int .i64 1]) (.int .i64 1)).run Tryz.prog w = .ok (.int .i64 1) w := fun _ => by kernel_rfl
  have x2 : ∀ w, (Instr.index 55 (.agg #[.int .i64 1, .int .i64 1, .int .i64 1, .int .i64 1, .int .i64 1, .int .i64 1]) (.int .i64 2)).run Tryz.prog w = .ok (.int .i64 1) w := fun _ => by kernel_rfl
  have x3 : ∀ w, (Instr.index 55 (.agg #[.int .i64 1, .int .i64 1, .int .i64 1, .int .i64 1, .int .i64 1, .int .i64 1]) (.int .i64 3)).run Tryz.prog w = .ok (.int .i64 1) w := fun _ => by kernel_rfl
  have x4 : ∀ w, (Instr.index 55 (.agg #[.int .i64 1, .int .i64 1, .int .i64 1, .int .i64 1, .int .i64 1, .int .i64 1]) (.int .i64 4)).run Tryz.prog w = .ok (.int .i64 1) w := fun _ => by kernel_rfl
  have x5 : ∀ w, (Instr.index 55 (.agg #[.int .i64 1, .int .i64 1, .int .i64 1, .int .i64 1, .int .i64 1, .int .i64 1]) (.int .i64 5)).run Tryz.prog w = .ok (.int .i64 1) w := fun _ => by kernel_rfl
  go_wp2
  go_loopw [67] (fun v wr => ∃ j : Nat, j ≤ 6 ∧ v = .int .i64 (j : Int) ∧ wr = w7) (fun v _ => 6 - (intOf v).toNat)
  case atStart => exact ⟨0, by omega, rfl, rfl⟩
  case round =>
    obtain ⟨j, hj, rfl, hwr⟩ := hrel
    subst hwr
    match j, hj with
    | 0, _ | 1, _ | 2, _ | 3, _ | 4, _ | 5, _ =>
      clear hw2
      go_wp2
      go_roundw
      case rel => first | exact ⟨1, by omega, rfl, trivial⟩ | exact ⟨2, by omega, rfl, trivial⟩ | exact ⟨3, by omega, rfl, trivial⟩ | exact ⟨4, by omega, rfl, trivial⟩ | exact ⟨5, by omega, rfl, trivial⟩ | exact ⟨6, by omega, rfl, trivial⟩
      case measure => simp [intOf]
    | 6, _ =>
      go_wp2_with (go_at_call 9; refine hw2.mono ?_; clear hw2; rintro e w8 ⟨rfl, hB⟩; have H8 : Hid (Below w.heap.size w w8) := H7.out.trans (hB.mono H7.out.size); clear hB)
      go_ret
      exact ⟨rfl, H8.out⟩
    | j + 7, h => omega
theorem u64_wf {n : Int} (h : (Lit.int .u64 n).wf = true) : 0 ≤ n ∧ n ≤ 18446744073709551615 := by
  have h0 : (decide (IntKind.u64.min ≤ n) && decide (n ≤ IntKind.u64.max)) = true := h
  rw [Bool.and_eq_true, decide_eq_true_iff, decide_eq_true_iff, show IntKind.u64.min = 0 by decide, show IntKind.u64.max = 18446744073709551615 by decide] at h0
  exact h0
theorem own : ownKnob Tryz.prog.godebug = none := by kernel_rfl

set_option maxRecDepth 100000 in
theorem parentsNone_lifted (os : Os) (started : os.Started) (H : Type) (enc : TypeId × Value → H) :
    ReturnsInHanded {} Tryz.checked os 5 .any (Rows.parentsNoneSpec.pre6 enc Tryz.prog Tryz.f5 Rows.parentsNoneRow.domain false) (Rows.parentsNoneSpec.post enc Tryz.prog Tryz.f5 false true false false) := by
  refine returnsInHanded_of_change_sized (C := Tryz.checked) own started (by kernel_rfl) Tryz.func5
    (ChangeSpec.witness6 (enc := enc) (C := Tryz.checked) false ⟨#[], #[.int .u64 0, .int .u64 0], []⟩ 8 (by kernel_rfl) (by kernel_rfl) (by kernel_rfl) (by kernel_rfl)) ?_
  intro W base args ds gs before hval0 hW _ hsz0 _
  have hsz : (DataW.weightsEach Tryz.prog (Tryz.f5.params.toList ++ Rows.parentsNoneSpec.plain.varTypes Tryz.prog) (ds ++ gs)).all (· ≤ reachBytes) = true := hsz0
  have hval : ∀ (j : Nat) t v, Tryz.f5.params[j]? = some t → args[j]? = some v → Value.okWide Tryz.prog W .any base t v := hval0
  have hW' := hW
  obtain ⟨p, q, hA0, hV, rfl, _, _⟩ := hW
  have hA : DataW.TrodAll enc Tryz.prog W 0 (fun _ => true) true Tryz.f5.params.toList args.toList ds p := hA0
  rw [Tryz.params5] at hA hval hsz
  obtain ⟨v0, vs0, d0, ds0, p0, q0, hargs, rfl, rfl, h0, r0⟩ := trodAll_cons hA
  obtain ⟨v1, vs1, d1, ds1, p1, q1, rfl, rfl, rfl, h1, r1⟩ := trodAll_cons r0
  obtain ⟨rfl, rfl, rfl⟩ := trodAll_nil r1
  obtain rfl : args = #[v0, v1] := by cases args; simp_all
  obtain ⟨rfl, rfl⟩ := trodVars_none hV
  obtain ⟨a0, rfl, rfl, rfl, w0⟩ := open_int Tryz.underlying31 (hval 0 31 v0 rfl rfl) h0
  obtain ⟨a1, rfl, rfl, rfl, w1⟩ := open_int Tryz.underlying31 (hval 1 31 v1 rfl rfl) h1
  clear hA0 hval0 hsz0 hsz
  refine (parentsNone_walk a0 a1 (u64_wf w0) (u64_wf w1) W).mono fun e W' ⟨he, bel⟩ => ?_
  subst he
  exact ⟨_, rfl, _, _, _, [], _, [], hW', trodAll_mk1 (shut_bool Tryz.underlying4 _), trodAll_cons_mk (shut_int Tryz.underlying31 w0) (trodAll_cons_mk (shut_int Tryz.underlying31 w1) trodAll_mk0), rfl, bel.frame _, fun h => by cases h⟩

theorem parentsNone_holds : Rows.ParentsNoneSaid :=
  OpenClaim.holds_of_wide 5 Tryz.f5 rfl rfl rfl rfl rfl rfl rfl ⟨rfl, rfl, rfl, rfl, rfl⟩ rfl rfl rfl rfl rfl (by kernel_rfl) Tryz.func5 (by kernel_rfl)
    (of_decide_eq_true (by kernel_rfl)) (by unfold Func.isWrapper; first | (rw [if_pos (by decide +kernel)]; kernel_rfl) | (rw [if_neg (by decide +kernel)]; exact ⟨rfl, rfl⟩))
    (fun os started H enc _ => parentsNone_lifted os started H enc)
#print axioms parentsNone_holds

end Go.Proofs.YtncagdfbgpdhfaaGreat
