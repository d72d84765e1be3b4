import Derived.Test.YtdjodigimhgklaaGreatDoorN43
import Derived.Test.YtdjodigimhgklaaGreatDoorRows
import Derived.Test.YtdjodigimhgklaaGreatDoorTie
import Derived.Test.YtdjodigimhgklaaGreatDoorCards
import Derived.ProofKit
import Derived.OpenShut
import Derived.ShutString
import Derived.ChangeOld
import Derived.SizedLaws
import Derived.Deep.Slices
import Derived.Lay
import Derived.LaidOnce
import Derived.SevenTiedAt
import Derived.Deep.DeepHandedRow
/- Proved here: for every id and every pair the law MemoNone (what is answered of no disk, no memo, the key 0) returns true, and its arguments read as before; the tables that the program lays are laid as its text lays them. No other condition. -/
namespace Go.Proofs.YtdjodigimhgklaaGreatDoor
open Go.RowKit
open Go.ChangeShapes Go.WideShapes Go.ChangeAt

theorem own : ownKnob Tryz.prog.godebug = none := by kernel_rfl
noncomputable def laidWorld (os : Os) : World := World.laidAll Tryz.prog os Rows.memoNoneRow.laid
theorem laidOut : laidOutB Tryz.prog = true := by kernel_rfl
set_option maxRecDepth 100000 in
set_option linter.constructorNameAsVariable false in
theorem pair_arg {H : Type} {enc : TypeId × Value → H} {W : World} {base : Nat} {v : Value} {d : DataW H} {ps : List MemPlace} (hok : Value.okWide Tryz.prog W .any base 39 v)
    (hd : DataW.Trod enc Tryz.prog W 0 (fun _ => true) true 39 v d ps) : ∃ x y : Nat, v = .agg #[.int .u64 (x : Int), .int .u64 (y : Int)] := by
  have hu := Tryz.underlying39
  have hc2 : Tryz.prog.cellsOf 39 = 2 := by kernel_rfl
  simp only [Value.okWide, hu] at hok
  obtain ⟨cs, rfl, h2, _⟩ := hok
  rw [hc2] at h2
  obtain ⟨fuel, hf⟩ := hd
  obtain ⟨z0, z1, rfl⟩ : ∃ z0 z1, cs = #[z0, z1] := by
    match cs, h2 with
    | ⟨[z0, z1]⟩, _ => exact ⟨z0, z1, rfl⟩
  obtain ⟨xs, fu, _, _, _, hxl, hfl⟩ := DataW.trod_struct Tryz.underlying39 hf
  have e39 : Tryz.prog.cellsOf 23 = 1 := by kernel_rfl
  match xs, hxl with
  | [y0, y1], _ =>
    have f0 : DataW.trod enc Tryz.prog W 0 (fun _ => true) true fu 23 [z0] = some y0 := by simpa [e39, Value.cells] using hfl 0 _ rfl
    have f1 : DataW.trod enc Tryz.prog W 0 (fun _ => true) true fu 23 [z1] = some y1 := by simpa [e39, Value.cells] using hfl 1 _ rfl
    obtain ⟨k0, c0, _, w0⟩ := DataW.trod_int Tryz.underlying23 f0
    obtain ⟨k1, c1, _, w1⟩ := DataW.trod_int Tryz.underlying23 f1
    simp only [List.cons.injEq, and_true] at c0 c1
    subst c0 c1
    have b0 := bounds_u64 w0
    have b1 := bounds_u64 w1
    refine ⟨k0.toNat, k1.toNat, ?_⟩
    rw [show ((k0.toNat : Nat) : Int) = k0 from by omega, show ((k1.toNat : Nat) : Int) = k1 from by omega]

theorem laid_met (os : Os) : laidMet Tryz.prog Rows.memoNoneRow.laid ((laidWorld os).forCall (fun _ _ => 0) ⟨#[], #[.int .u64 0, .agg #[.int .u64 0, .int .u64 0]], []⟩).memory :=
  laidMet_laidAll _ (by kernel_rfl) (by kernel_rfl)
theorem reads (os : Os) {H : Type} (enc : TypeId × Value → H) : ∃ places, DataW.whole enc Tryz.prog ((laidWorld os).forCall (fun _ _ => 0) ⟨#[], #[.int .u64 0, .agg #[.int .u64 0, .int .u64 0]], []⟩).memory Tryz.f5.params.toList Rows.memoNoneSpec.vars false #[(.int .u64 0 : Value), .agg #[.int .u64 0, .int .u64 0]].toList 8 = some ([.lit (.int .u64 0), .agg [.lit (.int .u64 0), .lit (.int .u64 0)]], [], places) :=
  ⟨[], by kernel_rfl⟩

set_option maxRecDepth 100000 in
theorem memoNone_lifted (os : Os) (started : os.Started) (H : Type) (enc : TypeId × Value → H) (F : Stop.Interp) :
    ReturnsInHanded {} Tryz.checked os 5 .any ((OpenSpec.ofChange Rows.memoNoneSpec).preRow enc Tryz.prog Tryz.f5 Rows.memoNoneRow.domain false Rows.memoNoneRow.laid) (((OpenSpec.ofChange Rows.memoNoneSpec).at F).post enc Tryz.prog Tryz.f5 false true false false) := by
  obtain ⟨places, hx⟩ := reads os enc
  refine returnsInHanded_of_row (C := Tryz.checked) (s := OpenSpec.ofChange Rows.memoNoneSpec) own started (by kernel_rfl) Tryz.func5
    (witness_row_at (enc := enc) (C := Tryz.checked) false (laidWorld os) #[.int .u64 0, .agg #[.int .u64 0, .int .u64 0]] (World.laidAll_os _ _ _) (by kernel_rfl) (by kernel_rfl) (by kernel_rfl)
      (OpenSpec.preRow_of_cond 8 hx (by kernel_rfl) (fun k hk => by cases hk) (by kernel_rfl) (laid_met os))) ?_
  intro W base args ds gs before hval0 hW _ hcond hsz0 hL _ _
  have hsz : (DataW.weightsEach Tryz.prog (Tryz.f5.params.toList ++ Rows.memoNoneSpec.plain.varTypes Tryz.prog) (ds ++ gs)).all (· ≤ reachBytes) = true := hsz0
  have hval : ∀ (j : Nat) t v, Tryz.f5.params[j]? = some t → args[j]? = some v → Value.okWide Tryz.prog W .any base t v := hval0
  have hW' := hW
  obtain ⟨p, q, hA0, hV, rfl, _, _⟩ := hW
  have hA : DataW.TrodAll enc Tryz.prog W 0 (fun _ => true) true Tryz.f5.params.toList args.toList ds p := hA0
  rw [Tryz.params5] at hA hval hsz
  obtain ⟨v0, vs0, d0, ds0, p0, q0, hargs, rfl, rfl, h0, r0⟩ := trodAll_cons hA
  obtain ⟨v1, vs1, d1, ds1, p1, q1, rfl, rfl, rfl, h1, r1⟩ := trodAll_cons r0
  obtain ⟨rfl, rfl, rfl⟩ := trodAll_nil r1
  obtain rfl : args = #[v0, v1] := by cases args; simp_all
  obtain ⟨rfl, rfl⟩ := trodVars_none hV
  obtain ⟨a0, rfl, rfl, rfl, w0⟩ := open_int Tryz.underlying23 (hval 0 23 v0 rfl rfl) h0
  have k1 := h1
  have lt1 : ∀ x ∈ p1, x.block < W.heap.size := by obtain ⟨m, hm⟩ := k1; exact DataW.trod_lt m _ _ _ hm
  obtain ⟨x, y, rfl⟩ := pair_arg (hval 1 39 v1 rfl rfl) h1
  clear hA0 hval0 hsz0 hsz
  refine (memoNone_walk a0 x y W).mono fun e W' ⟨he, bel⟩ => ?_
  subst he
  exact ⟨_, rfl, _, _, _, [], _, [], hW', trodAll_mk1 (shut_bool Tryz.underlying4 _), (trodAll_cons_mk (shut_int Tryz.underlying23 w0) (trodAll_cons_mk (Below.trod laidOut (by kernel_rfl) (of_decide_eq_true (by kernel_rfl)) k1 bel lt1) trodAll_mk0)), rfl, bel.frame _, fun h => by cases h⟩

theorem memoNone_row : Rows.MemoNoneSaid :=
  OpenClaim.holds_of_cond 5 Tryz.f5 rfl rfl rfl rfl rfl rfl rfl ⟨rfl, rfl, rfl, rfl, rfl⟩ rfl rfl rfl rfl rfl (by kernel_rfl) Tryz.func5 (by kernel_rfl)
    (of_decide_eq_true (by kernel_rfl)) (by unfold Func.isWrapper; first | (rw [if_pos (by decide +kernel)]; kernel_rfl) | (rw [if_neg (by decide +kernel)]; exact ⟨rfl, rfl⟩))
    (fun os started H enc _ F => by rw [OpenClaim.pre_eq_preRow]; exact memoNone_lifted os started H enc F)

theorem memoNone_holds : Rows.MemoNoneCardSaid :=
  Claim7.holds_tied_plain_at .later [] _ _ _ _ memoNone_row (fun _ h => by cases h) (by kernel_rfl) (fun _ h => by cases h) memoNone_row_tie rfl ⟨rfl, rfl⟩ (by kernel_rfl) rfl
    (fun f fn hf hfn => by
      obtain rfl : f = 5 := Option.some.inj ((show Tryz.prog.funcNamed "espalier/espalierlaw18.MemoNone" = some 5 by kernel_rfl).symm.trans hf) |>.symm
      obtain rfl : fn = Tryz.f5 := (Option.some.inj (Tryz.func5.symm.trans hfn)).symm
      exact ⟨by kernel_rfl, fun j t ht => by
        rw [Tryz.params5] at ht
        have hm : t ∈ [23, 39] := by simpa using Array.mem_of_getElem? ht
        have hall : ([23, 39].all fun u => !Tryz.prog.wantsStandIn u) = true := by kernel_rfl
        exact (show Tryz.prog.wantsStandIn t = false by simpa using List.all_eq_true.1 hall t hm)⟩)
    (by kernel_rfl)
#print axioms memoNone_holds

end Go.Proofs.YtdjodigimhgklaaGreatDoor
