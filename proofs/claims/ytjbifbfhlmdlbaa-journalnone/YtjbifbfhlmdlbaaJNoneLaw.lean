/- Proved here: for every name and number the law JournalNone returns true, and its arguments read as before. No condition. -/
import Derived.Test.YtjbifbfhlmdlbaaJWakes
import Derived.Test.YtjbifbfhlmdlbaaJEach
import Derived.Test.YtjbifbfhlmdlbaaRows
import Derived.ProofKit
import Derived.OpenShut
import Derived.ShutString
import Derived.ChangeOld
import Derived.SizedLaws
namespace Go.Proofs.Ytjbifbfhlmdlbaa
open Go.RowKit Go.Shelf

attribute [local go_sem] Oper.semAt_some

/-- no Journal: Each tells nothing -/
theorem each_nil_tells {α : Type} (w : World) (B : Nat) (hB : w.cell? ⟨B, 0, none⟩ = some (.pointer none)) (n : Nat) (encs : α → Array Value) (Px : List α → α → World → Prop) (Kb : Nat → Prop) :
    Tells Fence.wide n Try.prog 38 #[.pointer (some ⟨B, 0, none⟩)] encs Px Kb (fun xs => xs = []) w := by
  intro l J W hW _ _ h0
  have hcB : W.cell? ⟨B, 0, none⟩ = some (.pointer none) := (hW.cell (p := ⟨B, 0, none⟩) (World.block_lt_of_cell? w _ hB)).trans hB
  refine callsIn_of_wp Try.func38 rfl trivial ?_ rfl
  simp only [Try.ntmps38, List.size_toArray, List.length_cons, List.length_nil, Nat.reduceAdd, Nat.reduceSub, Array.replicate_succ, Array.replicate_zero, List.push_toArray, List.append_toArray, List.nil_append, List.cons_append]
  gi_wp2
  refine bodyPost_ret (results_none rfl _ _ _) rfl ?_
  exact ⟨⟨_, rfl⟩, [], rfl, h0⟩

set_option maxRecDepth 100000 in
set_option maxHeartbeats 4000000 in
theorem journalNone_walk (s : ByteArray) (k : Int) (w : World) (hs : s.size ≤ maxLen) : Calls Try.prog 5 #[.string s, .int .i64 k] w fun e w' => e = .returned (.bool true) ∧ Below w.heap.size w w' := by
  refine (callsIn_wide (n := 5)).1 ?_
  refine callsIn_of_wp_marks Try.func5 rfl trivial ?_ rfl
  simp only [Try.ntmps5, List.size_toArray, List.length_cons, List.length_nil, Nat.reduceAdd, Nat.reduceSub, Array.replicate_succ, Array.replicate_zero, List.push_toArray, List.append_toArray, List.nil_append, List.cons_append]
  refine wpIn_wide.2 ?_
  go_wp2_with fail
  refine (jwakes_any _).mono ?_
  rintro e w1 ⟨rfl, B1⟩
  go_wp2_with fail
  refine (jrecord_nil _ _).mono ?_
  rintro e w2 ⟨rfl, rfl⟩
  go_wp2_with fail
  refine (jopen_nil _ _).mono ?_
  rintro e w3 ⟨rfl, rfl⟩
  go_wp2_with fail
  refine (each_any _ _).mono ?_
  rintro e w4 ⟨rfl, rfl⟩
  go_wp2_with fail
  obtain ⟨w4, hw4⟩ : ∃ w4, w4 = w3.alloc (.cells #[.pointer none] 30) := ⟨_, rfl⟩
  have b0 := Boxed.new w 4 (.bool false)
  have B3 : Below w.heap.size w w3 := ((Below.refl _ w).alloc (Nat.le_refl _) _).trans (B1.mono (by simp))
  have b3 : Boxed w3 w.heap.size 4 (.bool false) := (B1.block _ b0.lt).trans b0
  have b4 : Boxed w4 w.heap.size 4 (.bool false) := by rw [hw4]; exact b3.alloc _
  have B4 : Below w.heap.size w w4 := by rw [hw4]; exact B3.alloc B3.size _
  have e4 : Boxed w4 w3.heap.size 30 (.pointer none) := by rw [hw4]; exact Boxed.new _ _ _
  have hs4 : w.heap.size + 1 ≤ w4.heap.size := b4.lt
  rw [← hw4]
  clear hw4 b0 b3 B3 B1
  refine (wpIn_wide (n := 5)).1 ?_
  refine range_told (α := Empty) (w := w4) rfl (by omega) (gf := 38) (lb := #[.pointer (some ⟨w3.heap.size, 0, none⟩)]) rfl trivial (enters_of Try.func38 (by kernel_rfl) rfl)
    (each_nil_tells w4 w3.heap.size e4.cell 4 (fun x => nomatch x) (fun _ _ _ => False) (fun _ => False)) (fun x => nomatch x) (fun k hk => hk.elim)
    (fun _ W => Boxed W w.heap.size 4 (.bool false) ∧ Below w.heap.size w W)
    (OwnFrom.and (Own.from (boxed_own _ _ (fun _ : List Empty => .bool false)) _) (ownFrom_below (Nat.le_refl _) (by omega)))
    (fun _ x => nomatch x) ⟨b4, B4⟩ (fun x => nomatch x) (fun _ x => nomatch x) (fun _ _ x => nomatch x) ?done
  case done =>
    rintro D xs W hD rfl ⟨bW, hBW⟩ hK
    have HB : Hid (Below w.heap.size w W ∧ Boxed W w.heap.size 4 (.bool false) ∧ W.heap[D]? = some (.deferred (some []))) := ⟨hBW, bW, hK⟩
    have hDw : w.heap.size + 1 ≤ D := by omega
    clear bW hBW hK
    go_wp2_with fail
    refine (jappend_nil _ _).mono ?_
    rintro e w5 ⟨rfl, rfl⟩
    go_wp2_with fail
    refine (jlen_nil _).mono ?_
    rintro e w6 ⟨rfl, rfl⟩
    go_wp2_with fail
    refine (jsize_nil _).mono ?_
    rintro e w7 ⟨rfl, rfl⟩
    go_wp2_with fail
    refine (new_any _).mono ?_
    rintro e w8 ⟨rfl, hd8, B8⟩
    have hx := jl_open w8 _ _ _ s [] hd8 hs (Good.new _) (by simp [fileB])
    clear hd8
    go_wp2_with fail
    refine hx.mono ?_
    clear hx
    rintro e w9 ⟨j, rfl, ⟨F, G, hJ9, hd9, _⟩, hT9⟩
    have hx1 := jlen_any w9 j _ s _ _ false F hJ9
    have hx2 := writes_any _ _ G w9 hd9
    have HB9 : Hid (Below w7.heap.size w7 w9) := B8.trans (hT9.below B8.size (by rintro k (rfl | rfl) <;> omega))
    clear hJ9 hd9 hT9 B8
    go_wp2_with fail
    refine hx1.mono ?_
    clear hx1
    rintro e w10 ⟨rfl, rfl⟩
    go_wp2_with fail
    refine hx2.mono ?_
    clear hx2
    rintro e w11 ⟨rfl, rfl⟩
    go_wp2_with fail
    refine (jwakes_any _).mono ?_
    rintro e w12 ⟨rfl, B12⟩
    have HB12 : Hid (Below w7.heap.size w7 w12) := HB9.out.trans (B12.mono HB9.out.size)
    have b12 : Boxed w12 w.heap.size 4 (.bool false) := (HB12.out.block _ HB.out.2.1.lt).trans HB.out.2.1
    have c12 := b12.cell
    have f12 := b12.frozen
    clear B12
    go_wp2_with fail
    have hDlt : D < w7.heap.size := (Array.getElem?_eq_some_iff.1 HB.out.2.2).1
    have hK6 : (w12.setCell ⟨w.heap.size, 0, none⟩ (.bool true)).heap[D]? = some (.deferred (some [])) := by
      rw [Below.heap_setCell _ _ _ _ (by show D ≠ w.heap.size; omega), HB12.out.block D hDlt]; exact HB.out.2.2
    have hc6 : ((w12.setCell ⟨w.heap.size, 0, none⟩ (.bool true)).putObj D (.deferred none)).cell? ⟨w.heap.size, 0, none⟩ = some (.bool true) :=
      cell_kept (World.cell?_setCell_same _ _ _ c12) (grownBy_putObj' _ D (.deferred none)) (fun r e => by cases e; exact ⟨_, hK6, rfl⟩)
    have hB6 : Below w.heap.size w (w12.setCell ⟨w.heap.size, 0, none⟩ (.bool true)) := (HB.out.1.trans (HB12.out.mono HB.out.1.size)).setCell (p := ⟨w.heap.size, 0, none⟩) (by simp) _
    refine ⟨by simp, .inl ⟨_, _, rfl, run_takeDeferred hK6, ?_⟩⟩
    refine ⟨.bool true, ?_, rfl, hB6.trans (belowK_b (w := w) (Nat.le_refl _) _ D _ _ (by omega) hK6 rfl rfl)⟩
    simp [results, Try.results5, go_sem, hc6]

open Go.ChangeShapes Go.WideShapes Go.ChangeAt
open Go.ChangeMaps (open_string shut_string)

theorem own : ownKnob Try.prog.godebug = none := by kernel_rfl

set_option maxRecDepth 100000 in
theorem journalNone_lifted (os : Os) (started : os.Started) (H : Type) (enc : TypeId × Value → H) :
    ReturnsInHanded {} Try.checked os 5 .any (Rows.journalNoneSpec.pre6 enc Try.prog Try.f5 Rows.journalNoneRow.domain false) (Rows.journalNoneSpec.post enc Try.prog Try.f5 false true false false) := by
  refine returnsInHanded_of_change_sized (C := Try.checked) own started (by kernel_rfl) Try.func5
    (ChangeSpec.witness6 (enc := enc) (C := Try.checked) false ⟨#[], #[.string ByteArray.empty, .int .i64 0], []⟩ 8 (by kernel_rfl) (by kernel_rfl) (by kernel_rfl) (by kernel_rfl)) ?_
  intro W base args ds gs before hval0 hW _ hsz0 _
  have hsz : (DataW.weightsEach Try.prog (Try.f5.params.toList ++ Rows.journalNoneSpec.plain.varTypes Try.prog) (ds ++ gs)).all (· ≤ reachBytes) = true := hsz0
  have hval : ∀ (j : Nat) t v, Try.f5.params[j]? = some t → args[j]? = some v → Value.okWide Try.prog W .any base t v := hval0
  have hW' := hW
  obtain ⟨p, q, hA0, hV, rfl, _, _⟩ := hW
  have hA : DataW.TrodAll enc Try.prog W 0 (fun _ => true) true Try.f5.params.toList args.toList ds p := hA0
  rw [Try.params5] at hA hval hsz
  obtain ⟨v0, vs0, d0, ds0, p0, q0, hargs, rfl, rfl, h0, r0⟩ := trodAll_cons hA
  obtain ⟨v1, vs1, d1, ds1, p1, q1, rfl, rfl, rfl, h1, r1⟩ := trodAll_cons r0
  obtain ⟨rfl, rfl, rfl⟩ := trodAll_nil r1
  obtain rfl : args = #[v0, v1] := by cases args; simp_all
  obtain ⟨rfl, rfl⟩ := trodVars_none hV
  obtain ⟨a0, rfl, rfl, rfl, w0⟩ := open_string Try.underlying9 (hval 0 9 v0 rfl rfl) h0
  obtain ⟨a1, rfl, rfl, rfl, w1⟩ := open_int Try.underlying3 (hval 1 3 v1 rfl rfl) h1
  have hn0 : a0.size ≤ maxLen := by
    have := sized_string hsz (j := 0) (t := 9) rfl rfl
    simp only [reachBytes] at this
    unfold maxLen
    have h2 : a0.size ≤ 140737488351232 := by simpa using this
    omega
  clear hA0 hval0
  refine (journalNone_walk a0 a1 W hn0).mono fun e W' ⟨he, bel⟩ => ?_
  subst he
  exact ⟨_, rfl, _, _, _, [], _, [], hW', trodAll_mk1 (shut_bool Try.underlying4 _), trodAll_cons_mk (shut_string Try.underlying9 w0) (trodAll_cons_mk (shut_int Try.underlying3 w1) trodAll_mk0), rfl, bel.frame _, fun h => by cases h⟩

theorem journalNone_holds : Rows.JournalNoneSaid :=
  OpenClaim.holds_of_wide 5 Try.f5 rfl rfl rfl rfl rfl rfl rfl ⟨rfl, rfl, rfl, rfl, rfl⟩ rfl rfl rfl rfl rfl (by kernel_rfl) Try.func5 (by kernel_rfl)
    (of_decide_eq_true (by kernel_rfl)) (by unfold Func.isWrapper; first | (rw [if_pos (by decide +kernel)]; kernel_rfl) | (rw [if_neg (by decide +kernel)]; exact ⟨rfl, rfl⟩))
    (fun os started H enc _ => journalNone_lifted os started H enc)
#print axioms journalNone_holds

end Go.Proofs.Ytjbifbfhlmdlbaa
