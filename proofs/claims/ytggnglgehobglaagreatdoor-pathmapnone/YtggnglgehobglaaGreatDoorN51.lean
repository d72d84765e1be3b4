import Derived.Test.YtggnglgehobglaaGreatDoorN49
import Derived.Test.YtggnglgehobglaaGreatDoorN50
import Derived.Test.YtggnglgehobglaaGreatDoorN41
import Derived.Test.YtggnglgehobglaaGreatDoorRows
import Derived.PinnedBridge
import Derived.Lib.LaidU8T
import Derived.Test.YtggnglgehobglaaGreatDoorTie
import Derived.Test.YtggnglgehobglaaGreatDoorCards
import Derived.ProofKit
import Derived.OpenShut
import Derived.ShutString
import Derived.ChangeOld
import Derived.SizedLaws
import Derived.Deep.Slices
import Derived.Lay
import Derived.LaidOnce
import Derived.SevenTiedAt
import Derived.Deep.DeepHandedRow
/- The walk of PathmapNone. -/
namespace Go.Proofs.YtggnglgehobglaaGreatDoor
open Go.RowKit Go.Shelf Go.Maps

attribute [local go_sem] Oper.semAt_some

set_option maxRecDepth 100000 in
set_option maxHeartbeats 8000000 in
theorem pathmapNone_walk (s : ByteArray) (w : World) (hs : s.size ≤ maxLen) (_ : Tabs w) :
    Calls Tryz.prog 3 #[.string s] w fun e w' => e = .returned (.bool true) ∧ Below w.heap.size w w' := by
  have cI := fun W => Iimage_nil W s
  have cS := fun W => Isource_nil W s
  have cR := fun W => rule_nil W s
  have cB := fun W => below_nil W s hs
  have heq := eqR
  clear hs
  go_enter Tryz.func3, Tryz.ntmps3
  go_wp2_with fail
  refine (wakes14_any _).mono ?_
  rintro e w1 ⟨rfl, hB⟩
  have H1 : Hid (Below w.heap.size w w1) := hB
  clear hB
  go_wp2_with fail
  refine (trivial_any _).mono ?_
  rintro e w2 ⟨t, rfl, hMt, hB⟩
  have H2 : Hid (Below w.heap.size w w2) := H1.out.trans (hB.mono H1.out.size)
  clear hB hMt H1
  go_wp2_with fail
  refine (cI _).mono ?_
  clear cI
  rintro e w3 ⟨rfl, rfl⟩
  go_wp2_with fail
  refine (cS _).mono ?_
  clear cS
  rintro e w4 ⟨rfl, rfl⟩
  go_wp2_with fail
  refine (compose_nil1 _ _).mono ?_
  rintro e w5 ⟨rfl, hB⟩
  have H5 : Hid (Below w.heap.size w w5) := H2.out.trans (hB.mono H2.out.size)
  clear hB H2
  go_wp2_with fail
  refine (compose_nil2 _ _).mono ?_
  rintro e w6 ⟨rfl, hB⟩
  have H6 : Hid (Below w.heap.size w w6) := H5.out.trans (hB.mono H5.out.size)
  clear hB H5
  go_wp2_with fail
  refine (cR _).mono ?_
  clear cR
  rintro e w7 ⟨rfl, hB⟩
  have H7 : Hid (Below w.heap.size w (w7.alloc (.cells #[.int .i64 0, .string ⟨#[]⟩, .string ⟨#[]⟩] 31))) := (H6.out.trans (hB.mono H6.out.size)).alloc (Nat.le_trans H6.out.size hB.size) _
  clear hB H6
  go_wp2_with fail
  refine (rules_nil _).mono ?_
  rintro e w8 ⟨rfl, hB⟩
  have H8 : Hid (Below w.heap.size w w8) := H7.out.trans (hB.mono H7.out.size)
  clear hB H7
  go_wp2_with fail
  refine (text_nil _).mono ?_
  rintro e w9 ⟨rfl, hB⟩
  have H9 : Hid (Below w.heap.size w w9) := H8.out.trans (hB.mono H8.out.size)
  clear hB H8
  go_wp2_with fail
  refine (key_nil _).mono ?_
  rintro e w10 ⟨rfl, hB⟩
  have H10 : Hid (Below w.heap.size w w10) := H9.out.trans (hB.mono H9.out.size)
  clear hB H9
  go_wp2_with fail
  refine (same_nil1 _ _).mono ?_
  rintro e w11 ⟨rfl, hB⟩
  have H11 : Hid (Below w.heap.size w w11) := H10.out.trans (hB.mono H10.out.size)
  clear hB H10
  go_wp2_with fail
  refine (same_nil1 _ _).mono ?_
  rintro e w12 ⟨rfl, hB⟩
  have H12 : Hid (Below w.heap.size w w12) := H11.out.trans (hB.mono H11.out.size)
  clear hB H11
  go_wp2_with fail
  refine (same_nil2 _ _).mono ?_
  rintro e w13 ⟨rfl, hB⟩
  have H13 : Hid (Below w.heap.size w w13) := H12.out.trans (hB.mono H12.out.size)
  clear hB H12
  go_wp2_with fail
  refine (tops_nil _).mono ?_
  rintro e w14 ⟨rfl, hB⟩
  have H14 : Hid (Below w.heap.size w w14) := H13.out.trans (hB.mono H13.out.size)
  clear hB H13
  go_wp2_with fail
  refine (cB _).mono ?_
  rintro e w15 ⟨rfl, hB⟩
  have H15 : Hid (Below w.heap.size w w15) := H14.out.trans (hB.mono H14.out.size)
  clear hB H14
  go_wp2_with fail
  refine (inverse_nil _).mono ?_
  rintro e w16 ⟨rfl, hB⟩
  have H16 : Hid (Below w.heap.size w w16) := H15.out.trans (hB.mono H15.out.size)
  clear hB H15
  go_wp2_with fail
  refine (wakes14_any _).mono ?_
  rintro e w17 ⟨rfl, hB⟩
  have H17 : Hid (Below w.heap.size w w17) := H16.out.trans (hB.mono H16.out.size)
  clear hB H16
  go_wp2
  go_ret
  exact ⟨rfl, H17.out⟩
end Go.Proofs.YtggnglgehobglaaGreatDoor

/- What the rows list gives the walks: the two tables of unicode/utf8. -/
namespace Go.Proofs.YtggnglgehobglaaGreatDoor
open Go.Lib

theorem acc_eq : (Rows.laid_unicode_utf8_acceptRanges : DataW Unit) = acceptData := by kernel_rfl
theorem tabs_of {W : World} (h : laidMet Tryz.prog [("unicode/utf8.acceptRanges", Rows.laid_unicode_utf8_acceptRanges), ("unicode/utf8.first", Rows.laid_unicode_utf8_first)] W) : Tabs W := by
  have h1 := Lib.laidMet.reads h (.head _)
  have h2 := Lib.laidMet.reads h (.tail _ (.head _))
  rw [acc_eq] at h1
  rw [show Rows.laid_unicode_utf8_first = firstData from Pinned.utf8First_eq] at h2
  exact utf8Tabs_of_readsT (ρ := Tryz.lays197_ren) (U8Types.of260 { Tryz.lays197 with }) ⟨by kernel_rfl, by kernel_rfl, by kernel_rfl, by kernel_rfl, by kernel_rfl, by kernel_rfl, by kernel_rfl⟩ h2 h1
end Go.Proofs.YtggnglgehobglaaGreatDoor

/- Proved here: for every text the law PathmapNone (a nil Map lets nothing through, and says so) returns true, and its argument reads as before; the tables of unicode/utf8 are laid as the program text lays them. No other condition. -/
namespace Go.Proofs.YtggnglgehobglaaGreatDoor
open Go.RowKit
open Go.ChangeShapes Go.WideShapes Go.ChangeAt
open Go.ChangeMaps (open_string shut_string)

theorem own : ownKnob Tryz.prog.godebug = none := by kernel_rfl
noncomputable def laidWorld (os : Os) : World := World.laidAll Tryz.prog os Rows.pathmapNoneRow.laid
theorem laid_met (os : Os) : laidMet Tryz.prog Rows.pathmapNoneRow.laid ((laidWorld os).forCall (fun _ _ => 0) ⟨#[], #[.string ⟨#[]⟩], []⟩).memory :=
  laidMet_laidAll _ (by kernel_rfl) (by kernel_rfl)
theorem reads (os : Os) {H : Type} (enc : TypeId × Value → H) : ∃ places, DataW.whole enc Tryz.prog ((laidWorld os).forCall (fun _ _ => 0) ⟨#[], #[.string ⟨#[]⟩], []⟩).memory Tryz.f3.params.toList Rows.pathmapNoneSpec.vars false #[(.string ⟨#[]⟩ : Value)].toList 8 = some ([.lit (.string [])], [], places) :=
  ⟨[], by kernel_rfl⟩

set_option maxRecDepth 100000 in
theorem pathmapNone_lifted (os : Os) (started : os.Started) (H : Type) (enc : TypeId × Value → H) (F : Stop.Interp) :
    ReturnsInHanded {} Tryz.checked os 3 .any ((OpenSpec.ofChange Rows.pathmapNoneSpec).preRow enc Tryz.prog Tryz.f3 Rows.pathmapNoneRow.domain false Rows.pathmapNoneRow.laid) (((OpenSpec.ofChange Rows.pathmapNoneSpec).at F).post enc Tryz.prog Tryz.f3 false true false false) := by
  obtain ⟨places, hx⟩ := reads os enc
  refine returnsInHanded_of_row (C := Tryz.checked) (s := OpenSpec.ofChange Rows.pathmapNoneSpec) own started (by kernel_rfl) Tryz.func3
    (witness_row_at (enc := enc) (C := Tryz.checked) false (laidWorld os) #[.string ⟨#[]⟩] (World.laidAll_os _ _ _) (by kernel_rfl) (by kernel_rfl) (by kernel_rfl)
      (OpenSpec.preRow_of_cond 8 hx (by kernel_rfl) (fun k hk => by cases hk) (by kernel_rfl) (laid_met os))) ?_
  intro W base args ds gs before hval0 hW _ hcond hsz0 hL _ _
  have hsz : (DataW.weightsEach Tryz.prog (Tryz.f3.params.toList ++ Rows.pathmapNoneSpec.plain.varTypes Tryz.prog) (ds ++ gs)).all (· ≤ reachBytes) = true := hsz0
  have hval : ∀ (j : Nat) t v, Tryz.f3.params[j]? = some t → args[j]? = some v → Value.okWide Tryz.prog W .any base t v := hval0
  have hW' := hW
  obtain ⟨p, q, hA0, hV, rfl, _, _⟩ := hW
  have hA : DataW.TrodAll enc Tryz.prog W 0 (fun _ => true) true Tryz.f3.params.toList args.toList ds p := hA0
  rw [Tryz.params3] at hA hval hsz
  obtain ⟨v0, vs0, d0, ds0, p0, q0, hargs, rfl, rfl, h0, r0⟩ := trodAll_cons hA
  obtain ⟨rfl, rfl, rfl⟩ := trodAll_nil r0
  obtain rfl : args = #[v0] := by cases args; simp_all
  obtain ⟨rfl, rfl⟩ := trodVars_none hV
  obtain ⟨a0, rfl, rfl, rfl, w0⟩ := open_string Tryz.underlying9 (hval 0 9 v0 rfl rfl) h0
  clear hA0 hval0 hsz0 hsz
  have hT : Tabs W := tabs_of (by have h := hL; exact h)
  refine (pathmapNone_walk a0 W w0 hT).mono fun e W' ⟨he, bel⟩ => ?_
  subst he
  exact ⟨_, rfl, _, _, _, [], _, [], hW', trodAll_mk1 (shut_bool Tryz.underlying4 _), (trodAll_cons_mk (shut_string Tryz.underlying9 w0) trodAll_mk0), rfl, bel.frame _, fun h => by cases h⟩

theorem pathmapNone_row : Rows.PathmapNoneSaid :=
  OpenClaim.holds_of_cond 3 Tryz.f3 rfl rfl rfl rfl rfl rfl rfl ⟨rfl, rfl, rfl, rfl, rfl⟩ rfl rfl rfl rfl rfl (by kernel_rfl) Tryz.func3 (by kernel_rfl)
    (of_decide_eq_true (by kernel_rfl)) (by unfold Func.isWrapper; first | (rw [if_pos (by decide +kernel)]; kernel_rfl) | (rw [if_neg (by decide +kernel)]; exact ⟨rfl, rfl⟩))
    (fun os started H enc _ F => by rw [OpenClaim.pre_eq_preRow]; exact pathmapNone_lifted os started H enc F)

theorem pathmapNone_holds : Rows.PathmapNoneCardSaid :=
  Claim7.holds_tied_plain_at .later [] _ _ _ _ pathmapNone_row (fun _ h => by cases h) (by kernel_rfl) (fun _ h => by cases h) pathmapNone_row_tie rfl ⟨rfl, rfl⟩ (by kernel_rfl) rfl
    (fun f fn hf hfn => by
      obtain rfl : f = 3 := Option.some.inj ((show Tryz.prog.funcNamed "espalier/espalierlaw14.PathmapNone" = some 3 by kernel_rfl).symm.trans hf) |>.symm
      obtain rfl : fn = Tryz.f3 := (Option.some.inj (Tryz.func3.symm.trans hfn)).symm
      exact ⟨by kernel_rfl, fun j t ht => by
        rw [Tryz.params3] at ht
        have hm : t ∈ [9] := by simpa using Array.mem_of_getElem? ht
        have hall : ([9].all fun u => !Tryz.prog.wantsStandIn u) = true := by kernel_rfl
        exact (show Tryz.prog.wantsStandIn t = false by simpa using List.all_eq_true.1 hall t hm)⟩)
    (by kernel_rfl)
#print axioms pathmapNone_holds

end Go.Proofs.YtggnglgehobglaaGreatDoor
