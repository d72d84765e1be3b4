import Derived.Test.YtngfhhdmemldkaaGreatG47
import Derived.Test.YtngfhhdmemldkaaGreatRows
import Derived.ProofKit
import Derived.OpenShut
import Derived.ShutString
import Derived.ChangeOld
import Derived.SizedLaws
/- Proved here: for every two ids the law GraphNone returns true. No condition. -/
namespace Go.Proofs.YtngfhhdmemldkaaGreat
open Go.RowKit
open Go.ChangeShapes Go.WideShapes Go.ChangeAt

attribute [local go_sem] Oper.semAt_some

set_option maxRecDepth 100000 in
set_option maxHeartbeats 4000000 in
theorem graphNone_walk (a b : Int) (w : World) : Calls Tryz.prog 7 #[.int .u64 a, .int .u64 b] w fun e w' => e = .returned (.bool true) ∧ Below w.heap.size w w' := by
  have hw1 := gwakes_any w
  go_enter Tryz.func7, Tryz.ntmps7
  go_upto_region 3 with (go_at_call 9; refine hw1.mono ?_; clear hw1; rintro e w1 ⟨rfl, hB⟩; have H1 : Hid (Below w.heap.size w w1) := hB; clear hB)
  have hor := order_nil (w1.alloc (.cells #[.int .u64 a] 37)) (.slice (some ⟨w1.heap.size, 0, none⟩) 1 1)
  go_upto_region 4 with (go_at_call 13; refine hor.mono ?_; clear hor; rintro e w2 ⟨rfl, h2⟩; have H2 : Hid (Below w.heap.size w w2) := (by rw [h2]; exact H1.out.alloc H1.out.size _); clear h2)
  have han := ancestor_nil w2 a b
  go_upto_region 5 with (go_at_call 15; refine han.mono ?_; clear han; rintro e w3 ⟨rfl, hB⟩; have H3 : Hid (Below w.heap.size w w3) := H2.out.trans (hB.mono H2.out.size); clear hB)
  have hbe := fun v u => between_nil ((w3.alloc (.cells #[.int .u64 a] 37)).alloc (.cells #[.int .u64 b] 37)) v u
  go_upto_region 6 with (go_at_call 21; refine (hbe _ _).mono ?_; clear hbe; rintro e w4 ⟨rfl, h4⟩; have H4 : Hid (Below w.heap.size w w4) := (by rw [h4]; exact (H3.out.alloc H3.out.size _).alloc (by have := H3.out.size; simp; omega) _); clear h4)
  have hro := fun v => roots_nil (w4.alloc (.cells #[.int .u64 a] 37)) v
  go_upto_region 7 with (go_at_call 22; refine (hro _).mono ?_; clear hro; rintro e w5 ⟨rfl, h5⟩; have H5 : Hid (Below w.heap.size w w5) := (by rw [h5]; exact H4.out.alloc H4.out.size _); clear h5)
  have hde := depth_nil w5 a
  go_upto_region 8 with (go_at_call 17; refine hde.mono ?_; clear hde; rintro e w6 ⟨rfl, hB⟩; have H6 : Hid (Below w.heap.size w w6) := H5.out.trans (hB.mono H5.out.size); clear hB)
  have hli := lines_nil w6 a b
  go_upto_region 9 with (go_at_call 16; refine hli.mono ?_; clear hli; rintro e w7 ⟨rfl, hB⟩; have H7 : Hid (Below w.heap.size w w7) := H6.out.trans (hB.mono H6.out.size); clear hB)
  have hre := fun v => reach_nil (w7.alloc (.cells #[.int .u64 a] 37)) v
  go_upto_region 10 with (go_at_call 24; refine (hre _).mono ?_; clear hre; rintro e w8 ⟨rfl, h8⟩; have H8 : Hid (Below w.heap.size w w8) := (by rw [h8]; exact H7.out.alloc H7.out.size _); clear h8)
  have hwh := whole_nil w8 a
  have hw2 := fun W => gwakes_any W
  go_wp2_with first
    | (go_at_call 25; refine hwh.mono ?_; clear hwh; rintro e w9 ⟨rfl, hB⟩; have H9 : Hid (Below w.heap.size w w9) := H8.out.trans (hB.mono H8.out.size); clear hB)
    | (go_at_call 9; refine (hw2 _).mono ?_; clear hw2; rintro e w10 ⟨rfl, hB⟩; have H10 : Hid (Below w.heap.size w w10) := H9.out.trans (hB.mono H9.out.size); clear hB)
  go_ret
  exact ⟨rfl, H10.out⟩

theorem own : ownKnob Tryz.prog.godebug = none := by kernel_rfl

set_option maxRecDepth 100000 in
theorem graphNone_lifted (os : Os) (started : os.Started) (H : Type) (enc : TypeId × Value → H) :
    ReturnsInHanded {} Tryz.checked os 7 .any (Rows.graphNoneSpec.pre6 enc Tryz.prog Tryz.f7 Rows.graphNoneRow.domain false) (Rows.graphNoneSpec.post enc Tryz.prog Tryz.f7 false true false false) := by
  refine returnsInHanded_of_change_sized (C := Tryz.checked) own started (by kernel_rfl) Tryz.func7
    (ChangeSpec.witness6 (enc := enc) (C := Tryz.checked) false ⟨#[], #[.int .u64 0, .int .u64 0], []⟩ 8 (by kernel_rfl) (by kernel_rfl) (by kernel_rfl) (by kernel_rfl)) ?_
  intro W base args ds gs before hval0 hW _ hsz0 _
  have hsz : (DataW.weightsEach Tryz.prog (Tryz.f7.params.toList ++ Rows.graphNoneSpec.plain.varTypes Tryz.prog) (ds ++ gs)).all (· ≤ reachBytes) = true := hsz0
  have hval : ∀ (j : Nat) t v, Tryz.f7.params[j]? = some t → args[j]? = some v → Value.okWide Tryz.prog W .any base t v := hval0
  have hW' := hW
  obtain ⟨p, q, hA0, hV, rfl, _, _⟩ := hW
  have hA : DataW.TrodAll enc Tryz.prog W 0 (fun _ => true) true Tryz.f7.params.toList args.toList ds p := hA0
  rw [Tryz.params7] at hA hval hsz
  obtain ⟨v0, vs0, d0, ds0, p0, q0, hargs, rfl, rfl, h0, r0⟩ := trodAll_cons hA
  obtain ⟨v1, vs1, d1, ds1, p1, q1, rfl, rfl, rfl, h1, r1⟩ := trodAll_cons r0
  obtain ⟨rfl, rfl, rfl⟩ := trodAll_nil r1
  obtain rfl : args = #[v0, v1] := by cases args; simp_all
  obtain ⟨rfl, rfl⟩ := trodVars_none hV
  obtain ⟨a0, rfl, rfl, rfl, w0⟩ := open_int Tryz.underlying37 (hval 0 37 v0 rfl rfl) h0
  obtain ⟨a1, rfl, rfl, rfl, w1⟩ := open_int Tryz.underlying37 (hval 1 37 v1 rfl rfl) h1
  clear hA0 hval0 hsz0 hsz
  refine (graphNone_walk a0 a1 W).mono fun e W' ⟨he, bel⟩ => ?_
  subst he
  exact ⟨_, rfl, _, _, _, [], _, [], hW', trodAll_mk1 (shut_bool Tryz.underlying4 _), trodAll_cons_mk (shut_int Tryz.underlying37 w0) (trodAll_cons_mk (shut_int Tryz.underlying37 w1) trodAll_mk0), rfl, bel.frame _, fun h => by cases h⟩

theorem graphNone_holds : Rows.GraphNoneSaid :=
  OpenClaim.holds_of_wide 7 Tryz.f7 rfl rfl rfl rfl rfl rfl rfl ⟨rfl, rfl, rfl, rfl, rfl⟩ rfl rfl rfl rfl rfl (by kernel_rfl) Tryz.func7 (by kernel_rfl)
    (of_decide_eq_true (by kernel_rfl)) (by unfold Func.isWrapper; first | (rw [if_pos (by decide +kernel)]; kernel_rfl) | (rw [if_neg (by decide +kernel)]; exact ⟨rfl, rfl⟩))
    (fun os started H enc _ => graphNone_lifted os started H enc)
#print axioms graphNone_holds

end Go.Proofs.YtngfhhdmemldkaaGreat
