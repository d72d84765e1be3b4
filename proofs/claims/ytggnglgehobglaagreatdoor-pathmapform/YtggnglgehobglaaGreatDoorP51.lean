import Derived.Test.YtggnglgehobglaaGreatDoorP36
import Derived.Test.YtggnglgehobglaaGreatDoorRows
import Derived.PinnedBridge
import Derived.Lib.LaidU8T
import Derived.Test.YtggnglgehobglaaGreatDoorP10
import Derived.ProofKit
import Derived.OpenShut
import Derived.ShutString
import Derived.ChangeOld
import Derived.SizedLaws
import Derived.Deep.Slices
import Derived.Test.YtggnglgehobglaaGreatDoorP41
import Derived.Test.YtggnglgehobglaaGreatDoorP50
import Derived.Test.YtggnglgehobglaaGreatDoorTie
import Derived.Test.YtggnglgehobglaaGreatDoorCards
import Derived.Lay
import Derived.LaidOnce
import Derived.SevenTiedAt
import Derived.Deep.DeepHandedRow
/- What the rows list gives the walks: the two tables of unicode/utf8. -/
namespace Go.Proofs.YtggnglgehobglaaGreatDoor
open Go.Lib

theorem acc_eq : (Rows.laid_unicode_utf8_acceptRanges : DataW Unit) = acceptData := by kernel_rfl
theorem tabs_of {W : World} (h : laidMet Tryz.prog [("unicode/utf8.acceptRanges", Rows.laid_unicode_utf8_acceptRanges), ("unicode/utf8.first", Rows.laid_unicode_utf8_first)] W) : Tabs W := by
  have h1 := Lib.laidMet.reads h (.head _)
  have h2 := Lib.laidMet.reads h (.tail _ (.head _))
  rw [acc_eq] at h1
  rw [show Rows.laid_unicode_utf8_first = firstData from Pinned.utf8First_eq] at h2
  exact utf8Tabs_of_readsT (ρ := Tryz.lays197_ren) (U8Types.of260 { Tryz.lays197 with }) ⟨by kernel_rfl, by kernel_rfl, by kernel_rfl, by kernel_rfl, by kernel_rfl, by kernel_rfl, by kernel_rfl⟩ h2 h1
end Go.Proofs.YtggnglgehobglaaGreatDoor

/- A slice of rules that came in, opened; one rule that came in. -/
namespace Go.Proofs.YtggnglgehobglaaGreatDoor
open Go.ChangeShapes Go.WideShapes Go.ChangeAt Go.RowKit

theorem slice_roomU {H : Type} {enc : TypeId × Value → H} {W : World} {t e : TypeId} (ht : Tryz.prog.underlying t = some (.slice e)) {fuel : Nat} {a : Option Addr} {n cap : Nat} {x0 : DataW H × List MemPlace} (hf : DataW.trod enc Tryz.prog W 0 (fun _ => true) true fuel t [.slice a n cap] = some x0) (hw : ∀ q ∈ x0.1.weights Tryz.prog t, q ≤ reachBytes) : n * Tryz.prog.bytesOf e ≤ 140737488351232 := by
  rcases Deep.open_slice ht hf with ⟨hcs, _⟩ | ⟨x, n', cap', m, j, D, Pl, hcs, _, hl, hmx, hm, hx, hel⟩
  · simp only [List.cons.injEq, and_true, Value.slice.injEq] at hcs
    rw [hcs.2.1]; omega
  · simp only [List.cons.injEq, and_true, Value.slice.injEq] at hcs
    obtain ⟨_, rfl, rfl⟩ := hcs
    have hd : x0.1 = .slice ((List.range n).map D) ((List.range (m - n)).map fun j => D (n + j)) := congrArg Prod.fst hx
    have := hw ((((List.range n).map D).length + ((List.range (m - n)).map fun j => D (n + j)).length) * Tryz.prog.bytesOf e) (by
      rw [hd]
      simp only [DataW.weights, ht]
      exact List.mem_cons_self)
    have hr : reachBytes = 140737488351232 := rfl
    rw [List.length_map, List.length_range, hr] at this
    exact Nat.le_trans (Nat.mul_le_mul_right _ (Nat.le_add_right _ _)) this
theorem bulk_pos {H : Type} (d : DataW H) : 1 ≤ Rows.uptoBulk d := by
  cases d with
  | lit l => cases l <;> simp [Rows.uptoBulk]
  | _ => simp [Rows.uptoBulk]
theorem bulk_all {H : Type} : ∀ l : List (DataW H), l.length ≤ Rows.uptoBulkAll l
  | [] => Nat.zero_le _
  | d :: r => by
    have := bulk_all r
    have := bulk_pos d
    simp only [Rows.uptoBulkAll, List.length_cons]
    omega

theorem bulk_mem {H : Type} : ∀ {l : List (DataW H)} {d : DataW H}, d ∈ l → Rows.uptoBulk d ≤ Rows.uptoBulkAll l
  | [], d, h => by cases h
  | x :: r, d, h => by
    simp only [Rows.uptoBulkAll]
    rcases List.mem_cons.1 h with rfl | h
    · omega
    · have := bulk_mem h; omega
/-- what may be said of rules that came in -/
structure RuRoom (l : List Ru) : Prop where
  sz : ∀ x ∈ l, x.2.1.length ≤ maxLen ∧ x.2.2.length ≤ maxLen
  room : l.length * 40 ≤ 140737488351232

set_option maxRecDepth 100000 in
theorem rules_arg {H : Type} {enc : TypeId × Value → H} {W : World} {base : Nat} {v : Value} {d : DataW H} {ps : List MemPlace} (hok : Value.okWide Tryz.prog W .any base 34 v)
    (h : DataW.Trod enc Tryz.prog W 0 (fun _ => true) true 34 v d ps) (hw : ∀ q ∈ d.weights Tryz.prog 34, q ≤ reachBytes) :
    ∃ a n cap l, v = .slice a n cap ∧ Rus W a n l ∧ RuRoom l ∧ n ≤ cap ∧ (a = none → n = 0 ∧ cap = 0) ∧ n ≤ Rows.uptoBulk d ∧ ∀ x ∈ l, x.2.1.length ≤ Rows.uptoBulk d ∧ x.2.2.length ≤ Rows.uptoBulk d := by
  obtain ⟨a, n, cap, rfl⟩ := okWide_slice Tryz.underlying34 hok
  obtain ⟨fuel, hf⟩ := h
  have hroom := slice_roomU Tryz.underlying34 hf hw
  rw [show Tryz.prog.bytesOf 31 = 40 from by kernel_rfl] at hroom
  rcases Deep.open_slice Tryz.underlying34 hf with ⟨hcs, _⟩ | ⟨x, len, c, m, j, D, Pl, hcs, _, hl, hmx, hm, hx, hel⟩
  · simp [Value.cells] at hcs
    obtain ⟨rfl, rfl, rfl⟩ := hcs
    exact ⟨none, 0, 0, [], rfl, ⟨rfl, fun h0 => by omega⟩, ⟨by simp, by simp⟩, Nat.le_refl _, fun _ => ⟨rfl, rfl⟩, Nat.zero_le _, by simp⟩
  · simp [Value.cells] at hcs
    obtain ⟨rfl, rfl, rfl⟩ := hcs
    simp only [if_true] at hm
    have hd : d = .slice ((List.range n).map D) ((List.range (m - n)).map fun j => D (n + j)) := congrArg Prod.fst hx
    have hbulk : n ≤ Rows.uptoBulk d := by
      have h1 := bulk_all ((List.range n).map D)
      rw [List.length_map, List.length_range] at h1
      rw [hd]
      simp only [Rows.uptoBulk]
      omega
    have hcell : ∀ i, i < n → ∃ o : Ru, W.cell? (x.add (i * 3)) = some (.int .i64 o.1) ∧ W.cell? (x.add (i * 3 + 1)) = some (.string (mk o.2.1)) ∧ W.cell? (x.add (i * 3 + 2)) = some (.string (mk o.2.2)) ∧ (o.2.1.length ≤ maxLen ∧ o.2.2.length ≤ maxLen) ∧ o.2.1.length ≤ Rows.uptoBulk d ∧ o.2.2.length ≤ Rows.uptoBulk d := by
      intro i hi
      obtain ⟨cs', hc1, hc2⟩ := hel i (by omega)
      rw [show Tryz.prog.cellsOf 31 = 3 from by kernel_rfl] at hc1
      obtain ⟨xs, fu, _, hx0, _, hxl, hfl⟩ := DataW.trod_struct Tryz.underlying31 hc2
      obtain ⟨_, hlen2, hget⟩ := World.cells?_some hc1
      have e9 : Tryz.prog.cellsOf 9 = 1 := by kernel_rfl
      have e4 : Tryz.prog.cellsOf 3 = 1 := by kernel_rfl
      match cs', hlen2, xs, hxl with
      | [z0, z1, z2], _, [y0, y1, y2], _ =>
        have f0 : DataW.trod enc Tryz.prog W 0 (fun _ => true) true fu 3 [z0] = some y0 := by simpa [e4] using hfl 0 _ rfl
        have f1 : DataW.trod enc Tryz.prog W 0 (fun _ => true) true fu 9 [z1] = some y1 := by simpa [e9] using hfl 1 _ rfl
        have f2 : DataW.trod enc Tryz.prog W 0 (fun _ => true) true fu 9 [z2] = some y2 := by simpa [e9] using hfl 2 _ rfl
        obtain ⟨k0, c0, _, w0⟩ := DataW.trod_int Tryz.underlying3 f0
        obtain ⟨s1, c1, d1, w1⟩ := DataW.trod_string Tryz.underlying9 f1
        obtain ⟨s2, c2, d2, w2⟩ := DataW.trod_string Tryz.underlying9 f2
        have hdi : D i = .agg [y0.1, y1.1, y2.1] := congrArg Prod.fst hx0
        have hbi := bulk_mem (H := H) (List.mem_map.2 ⟨i, List.mem_range.2 hi, rfl⟩ : D i ∈ (List.range n).map D)
        have hb2 : s1.size ≤ Rows.uptoBulk d ∧ s2.size ≤ Rows.uptoBulk d := by
          rw [hdi, d1, d2] at hbi
          simp only [Rows.uptoBulk, Rows.uptoBulkAll] at hbi
          have e1 : s1.data.toList.length = s1.size := by simp
          have e2 : s2.data.toList.length = s2.size := by simp
          rw [hd]
          simp only [Rows.uptoBulk]
          omega
        simp only [List.cons.injEq, and_true] at c0 c1 c2
        subst c0 c1 c2
        have g0 := hget 0 (by simp)
        have g1 := hget 1 (by simp)
        have g2 := hget 2 (by simp)
        rw [Deep.add_add] at g0 g1 g2
        exact ⟨(k0, bs s1, bs s2), by simpa using g0, by rw [mk_bs]; simpa using g1, by rw [mk_bs]; simpa using g2, ⟨by rw [bs_len]; exact w1, by rw [bs_len]; exact w2⟩, by rw [bs_len]; exact hb2.1, by rw [bs_len]; exact hb2.2⟩
    haveI : Inhabited Ru := ⟨noR⟩
    obtain ⟨g, hg⟩ := Deep.choose_lt hcell
    have hgy : ∀ (i : Nat) y, ((List.range n).map g)[i]? = some y → i < n ∧ y = g i := fun i y hy => by
      have hi : i < n := by have := (List.getElem?_eq_some_iff.1 hy).1; simpa using this
      rw [List.getElem?_map, List.getElem?_range hi] at hy
      exact ⟨hi, (Option.some.inj hy).symm⟩
    refine ⟨some x, n, cap, (List.range n).map g, rfl, ⟨by simp, fun h0 => ?_⟩, ⟨fun y hy => ?_, by simpa using hroom⟩, hl, (fun h => by cases h), hbulk, fun y hy => ?_⟩
    rotate_left
    · obtain ⟨i, hi, rfl⟩ := List.mem_map.1 hy
      exact (hg i (List.mem_range.1 hi)).2.2.2.1
    · obtain ⟨i, hi, rfl⟩ := List.mem_map.1 hy
      exact (hg i (List.mem_range.1 hi)).2.2.2.2
    obtain ⟨b, off, spot⟩ := x
    have hc := (hg 0 h0).1
    have hspot : spot = none := by simpa [Addr.add] using World.cell?_spot hc
    subst hspot
    refine ⟨b, off, rfl, fun i y hy => ?_⟩
    obtain ⟨hi, rfl⟩ := hgy i y hy
    obtain ⟨e1, e2, e3, _⟩ := hg i hi
    rw [Addr.add_lit] at e1 e2 e3
    rw [← Nat.add_assoc] at e2 e3
    exact ⟨e1, e2, e3⟩
end Go.Proofs.YtggnglgehobglaaGreatDoor

/- A slice of rules that came in, opened: in MRulesArg. -/
namespace Go.Proofs.YtggnglgehobglaaGreatDoor
end Go.Proofs.YtggnglgehobglaaGreatDoor

/- Proved here: for every two slices of rules the law PathmapForm (sets of rules that say the same have one form, in whatever order they are written, and come back from their text; unlike forms say unlike things) returns true, and its arguments read as before; the tables of unicode/utf8 are laid as the program text lays them. No other condition. -/
namespace Go.Proofs.YtggnglgehobglaaGreatDoor
open Go.RowKit
open Go.ChangeShapes Go.WideShapes Go.ChangeAt
open Go.ChangeMaps (open_string shut_string)

theorem own : ownKnob Tryz.prog.godebug = none := by kernel_rfl
theorem laidOut : laidOutB Tryz.prog = true := by kernel_rfl
noncomputable def laidWorld (os : Os) : World := World.laidAll Tryz.prog os Rows.pathmapFormRow.laid
theorem laid_met (os : Os) : laidMet Tryz.prog Rows.pathmapFormRow.laid ((laidWorld os).forCall (fun _ _ => 0) ⟨#[], #[.slice none 0 0, .slice none 0 0], []⟩).memory :=
  laidMet_laidAll _ (by kernel_rfl) (by kernel_rfl)
theorem reads (os : Os) {H : Type} (enc : TypeId × Value → H) : ∃ places, DataW.whole enc Tryz.prog ((laidWorld os).forCall (fun _ _ => 0) ⟨#[], #[.slice none 0 0, .slice none 0 0], []⟩).memory Tryz.f4.params.toList Rows.pathmapFormSpec.vars false #[(.slice none 0 0 : Value), (.slice none 0 0 : Value)].toList 8 = some ([.nil, .nil], [], places) :=
  ⟨[], by kernel_rfl⟩

set_option maxRecDepth 100000 in
theorem pathmapForm_lifted (os : Os) (started : os.Started) (H : Type) (enc : TypeId × Value → H) (F : Stop.Interp) :
    ReturnsInHanded {} Tryz.checked os 4 .any ((OpenSpec.ofChange Rows.pathmapFormSpec).preRow enc Tryz.prog Tryz.f4 Rows.pathmapFormRow.domain false Rows.pathmapFormRow.laid) (((OpenSpec.ofChange Rows.pathmapFormSpec).at F).post enc Tryz.prog Tryz.f4 false true false false) := by
  obtain ⟨places, hx⟩ := reads os enc
  refine returnsInHanded_of_row (C := Tryz.checked) (s := OpenSpec.ofChange Rows.pathmapFormSpec) own started (by kernel_rfl) Tryz.func4
    (witness_row_at (enc := enc) (C := Tryz.checked) false (laidWorld os) #[.slice none 0 0, .slice none 0 0] (World.laidAll_os _ _ _) (by kernel_rfl) (by kernel_rfl) (by kernel_rfl)
      (OpenSpec.preRow_of_cond 8 hx (by kernel_rfl) (fun k hk => by cases hk) (by kernel_rfl) (laid_met os))) ?_
  intro W base args ds gs before hval0 hW _ hcond hsz0 hL _ _
  have hsz : (DataW.weightsEach Tryz.prog (Tryz.f4.params.toList ++ Rows.pathmapFormSpec.plain.varTypes Tryz.prog) (ds ++ gs)).all (· ≤ reachBytes) = true := hsz0
  have hval : ∀ (j : Nat) t v, Tryz.f4.params[j]? = some t → args[j]? = some v → Value.okWide Tryz.prog W .any base t v := hval0
  have hW' := hW
  obtain ⟨p, q, hA0, hV, rfl, _, _⟩ := hW
  have hA : DataW.TrodAll enc Tryz.prog W 0 (fun _ => true) true Tryz.f4.params.toList args.toList ds p := hA0
  rw [Tryz.params4] at hA hval hsz
  obtain ⟨v0, vs0, d0, ds0, p0, q0, hargs, rfl, rfl, h0, r0⟩ := trodAll_cons hA
  obtain ⟨v1, vs1, d1, ds1, p1, q1, rfl, rfl, rfl, h1, r1⟩ := trodAll_cons r0
  obtain ⟨rfl, rfl, rfl⟩ := trodAll_nil r1
  obtain rfl : args = #[v0, v1] := by cases args; simp_all
  obtain ⟨rfl, rfl⟩ := trodVars_none hV
  have k0 := h0
  have lt0 : ∀ x ∈ p0, x.block < W.heap.size := by obtain ⟨m, hm⟩ := k0; exact DataW.trod_lt m _ _ _ hm
  obtain ⟨a0, n0, c0, l0, rfl, st0, rm0, nc0, nil0, bk0, bm0⟩ := rules_arg (hval 0 34 v0 rfl rfl) h0 (fun q hq => by
    have := List.all_eq_true.1 hsz q (DataW.weights_mem_each (j := 0) rfl rfl q hq)
    simpa using this)
  have k1 := h1
  have lt1 : ∀ x ∈ p1, x.block < W.heap.size := by obtain ⟨m, hm⟩ := k1; exact DataW.trod_lt m _ _ _ hm
  obtain ⟨a1, n1, c1, l1, rfl, st1, rm1, nc1, nil1, bk1, bm1⟩ := rules_arg (hval 1 34 v1 rfl rfl) h1 (fun q hq => by
    have := List.all_eq_true.1 hsz q (DataW.weights_mem_each (j := 1) rfl rfl q hq)
    simpa using this)
  clear hA0 hval0 hsz0 hsz
  have hT : Tabs W := tabs_of (by have h := hL; exact h)
  refine (pathmapForm_walk a0 n0 c0 l0 a1 n1 c1 l1 W st0 rm0.sz (by rw [← st0.1]; exact rm0.room) nil0 st1 rm1.sz (by rw [← st1.1]; exact rm1.room) nil1 hT).mono fun e W' ⟨he, bel⟩ => ?_
  subst he
  exact ⟨_, rfl, _, _, _, [], _, [], hW', trodAll_mk1 (shut_bool Tryz.underlying4 _), (trodAll_cons_mk (Below.trod laidOut (by kernel_rfl) (of_decide_eq_true (by kernel_rfl)) k0 bel lt0) (trodAll_cons_mk (Below.trod laidOut (by kernel_rfl) (of_decide_eq_true (by kernel_rfl)) k1 bel lt1) trodAll_mk0)), rfl, bel.frame _, fun h => by cases h⟩

theorem pathmapForm_row : Rows.PathmapFormSaid :=
  OpenClaim.holds_of_cond 4 Tryz.f4 rfl rfl rfl rfl rfl rfl rfl ⟨rfl, rfl, rfl, rfl, rfl⟩ rfl rfl rfl rfl rfl (by kernel_rfl) Tryz.func4 (by kernel_rfl)
    (of_decide_eq_true (by kernel_rfl)) (by unfold Func.isWrapper; first | (rw [if_pos (by decide +kernel)]; kernel_rfl) | (rw [if_neg (by decide +kernel)]; exact ⟨rfl, rfl⟩))
    (fun os started H enc _ F => by rw [OpenClaim.pre_eq_preRow]; exact pathmapForm_lifted os started H enc F)

theorem pathmapForm_holds : Rows.PathmapFormCardSaid :=
  Claim7.holds_tied_plain_at .later [] _ _ _ _ pathmapForm_row (fun _ h => by cases h) (by kernel_rfl) (fun _ h => by cases h) pathmapForm_row_tie rfl ⟨rfl, rfl⟩ (by kernel_rfl) rfl
    (fun f fn hf hfn => by
      obtain rfl : f = 4 := Option.some.inj ((show Tryz.prog.funcNamed "espalier/espalierlaw14.PathmapForm" = some 4 by kernel_rfl).symm.trans hf) |>.symm
      obtain rfl : fn = Tryz.f4 := (Option.some.inj (Tryz.func4.symm.trans hfn)).symm
      exact ⟨by kernel_rfl, fun j t ht => by
        rw [Tryz.params4] at ht
        have hm : t ∈ [34, 34] := by simpa using Array.mem_of_getElem? ht
        have hall : ([34, 34].all fun u => !Tryz.prog.wantsStandIn u) = true := by kernel_rfl
        exact (show Tryz.prog.wantsStandIn t = false by simpa using List.all_eq_true.1 hall t hm)⟩)
    (by kernel_rfl)
#print axioms pathmapForm_holds

end Go.Proofs.YtggnglgehobglaaGreatDoor
