import Derived.Test.YtggnglgehobglaaL15
import Derived.Test.YtggnglgehobglaaRows
import Derived.ProofKit
import Derived.OpenShut
import Derived.ShutString
import Derived.ChangeOld
import Derived.SizedLaws
import Derived.Deep.Slices
import Derived.Test.YtggnglgehobglaaL48
/- A slice of rules that came in, opened; one rule that came in. -/
namespace Go.Proofs.Ytggnglgehobglaa
open Go.ChangeShapes Go.WideShapes Go.ChangeAt Go.RowKit

theorem slice_roomU {H : Type} {enc : TypeId × Value → H} {W : World} {t e : TypeId} (ht : Try.prog.underlying t = some (.slice e)) {fuel : Nat} {a : Option Addr} {n cap : Nat} {x0 : DataW H × List MemPlace} (hf : DataW.trod enc Try.prog W 0 (fun _ => true) true fuel t [.slice a n cap] = some x0) (hw : ∀ q ∈ x0.1.weights Try.prog t, q ≤ reachBytes) : n * Try.prog.bytesOf e ≤ 140737488351232 := by
  rcases Deep.open_slice ht hf with ⟨hcs, _⟩ | ⟨x, n', cap', m, j, D, Pl, hcs, _, hl, hmx, hm, hx, hel⟩
  · simp only [List.cons.injEq, and_true, Value.slice.injEq] at hcs
    rw [hcs.2.1]; omega
  · simp only [List.cons.injEq, and_true, Value.slice.injEq] at hcs
    obtain ⟨_, rfl, rfl⟩ := hcs
    have hd : x0.1 = .slice ((List.range n).map D) ((List.range (m - n)).map fun j => D (n + j)) := congrArg Prod.fst hx
    have := hw ((((List.range n).map D).length + ((List.range (m - n)).map fun j => D (n + j)).length) * Try.prog.bytesOf e) (by
      rw [hd]
      simp only [DataW.weights, ht]
      exact List.mem_cons_self)
    have hr : reachBytes = 140737488351232 := rfl
    rw [List.length_map, List.length_range, hr] at this
    exact Nat.le_trans (Nat.mul_le_mul_right _ (Nat.le_add_right _ _)) this
theorem bulk_pos {H : Type} (d : DataW H) : 1 ≤ Rows.uptoBulk d := by
  cases d with
  | lit l => cases l <;> simp [Rows.uptoBulk]
  | _ => simp [Rows.uptoBulk]
theorem bulk_all {H : Type} : ∀ l : List (DataW H), l.length ≤ Rows.uptoBulkAll l
  | [] => Nat.zero_le _
  | d :: r => by
    have := bulk_all r
    have := bulk_pos d
    simp only [Rows.uptoBulkAll, List.length_cons]
    omega

theorem bulk_mem {H : Type} : ∀ {l : List (DataW H)} {d : DataW H}, d ∈ l → Rows.uptoBulk d ≤ Rows.uptoBulkAll l
  | [], d, h => by cases h
  | x :: r, d, h => by
    simp only [Rows.uptoBulkAll]
    rcases List.mem_cons.1 h with rfl | h
    · omega
    · have := bulk_mem h; omega
/-- what may be said of rules that came in -/
structure RuRoom (l : List Ru) : Prop where
  sz : ∀ x ∈ l, x.2.1.length ≤ maxLen ∧ x.2.2.length ≤ maxLen
  room : l.length * 40 ≤ 140737488351232

set_option maxRecDepth 100000 in
theorem rules_arg {H : Type} {enc : TypeId × Value → H} {W : World} {base : Nat} {v : Value} {d : DataW H} {ps : List MemPlace} (hok : Value.okWide Try.prog W .any base 22 v)
    (h : DataW.Trod enc Try.prog W 0 (fun _ => true) true 22 v d ps) (hw : ∀ q ∈ d.weights Try.prog 22, q ≤ reachBytes) :
    ∃ a n cap l, v = .slice a n cap ∧ Rus W a n l ∧ RuRoom l ∧ n ≤ cap ∧ (a = none → n = 0 ∧ cap = 0) ∧ n ≤ Rows.uptoBulk d ∧ ∀ x ∈ l, x.2.1.length ≤ Rows.uptoBulk d ∧ x.2.2.length ≤ Rows.uptoBulk d := by
  obtain ⟨a, n, cap, rfl⟩ := okWide_slice Try.underlying22 hok
  obtain ⟨fuel, hf⟩ := h
  have hroom := slice_roomU Try.underlying22 hf hw
  rw [show Try.prog.bytesOf 41 = 40 from by kernel_rfl] at hroom
  rcases Deep.open_slice Try.underlying22 hf with ⟨hcs, _⟩ | ⟨x, len, c, m, j, D, Pl, hcs, _, hl, hmx, hm, hx, hel⟩
  · simp [Value.cells] at hcs
    obtain ⟨rfl, rfl, rfl⟩ := hcs
    exact ⟨none, 0, 0, [], rfl, ⟨rfl, fun h0 => by omega⟩, ⟨by simp, by simp⟩, Nat.le_refl _, fun _ => ⟨rfl, rfl⟩, Nat.zero_le _, by simp⟩
  · simp [Value.cells] at hcs
    obtain ⟨rfl, rfl, rfl⟩ := hcs
    simp only [if_true] at hm
    have hd : d = .slice ((List.range n).map D) ((List.range (m - n)).map fun j => D (n + j)) := congrArg Prod.fst hx
    have hbulk : n ≤ Rows.uptoBulk d := by
      have h1 := bulk_all ((List.range n).map D)
      rw [List.length_map, List.length_range] at h1
      rw [hd]
      simp only [Rows.uptoBulk]
      omega
    have hcell : ∀ i, i < n → ∃ o : Ru, W.cell? (x.add (i * 3)) = some (.int .i64 o.1) ∧ W.cell? (x.add (i * 3 + 1)) = some (.string (mk o.2.1)) ∧ W.cell? (x.add (i * 3 + 2)) = some (.string (mk o.2.2)) ∧ (o.2.1.length ≤ maxLen ∧ o.2.2.length ≤ maxLen) ∧ o.2.1.length ≤ Rows.uptoBulk d ∧ o.2.2.length ≤ Rows.uptoBulk d := by
      intro i hi
      obtain ⟨cs', hc1, hc2⟩ := hel i (by omega)
      rw [show Try.prog.cellsOf 41 = 3 from by kernel_rfl] at hc1
      obtain ⟨xs, fu, _, hx0, _, hxl, hfl⟩ := DataW.trod_struct Try.underlying41 hc2
      obtain ⟨_, hlen2, hget⟩ := World.cells?_some hc1
      have e9 : Try.prog.cellsOf 9 = 1 := by kernel_rfl
      have e4 : Try.prog.cellsOf 3 = 1 := by kernel_rfl
      match cs', hlen2, xs, hxl with
      | [z0, z1, z2], _, [y0, y1, y2], _ =>
        have f0 : DataW.trod enc Try.prog W 0 (fun _ => true) true fu 3 [z0] = some y0 := by simpa [e4] using hfl 0 _ rfl
        have f1 : DataW.trod enc Try.prog W 0 (fun _ => true) true fu 9 [z1] = some y1 := by simpa [e9] using hfl 1 _ rfl
        have f2 : DataW.trod enc Try.prog W 0 (fun _ => true) true fu 9 [z2] = some y2 := by simpa [e9] using hfl 2 _ rfl
        obtain ⟨k0, c0, _, w0⟩ := DataW.trod_int Try.underlying3 f0
        obtain ⟨s1, c1, d1, w1⟩ := DataW.trod_string Try.underlying9 f1
        obtain ⟨s2, c2, d2, w2⟩ := DataW.trod_string Try.underlying9 f2
        have hdi : D i = .agg [y0.1, y1.1, y2.1] := congrArg Prod.fst hx0
        have hbi := bulk_mem (H := H) (List.mem_map.2 ⟨i, List.mem_range.2 hi, rfl⟩ : D i ∈ (List.range n).map D)
        have hb2 : s1.size ≤ Rows.uptoBulk d ∧ s2.size ≤ Rows.uptoBulk d := by
          rw [hdi, d1, d2] at hbi
          simp only [Rows.uptoBulk, Rows.uptoBulkAll] at hbi
          have e1 : s1.data.toList.length = s1.size := by simp
          have e2 : s2.data.toList.length = s2.size := by simp
          rw [hd]
          simp only [Rows.uptoBulk]
          omega
        simp only [List.cons.injEq, and_true] at c0 c1 c2
        subst c0 c1 c2
        have g0 := hget 0 (by simp)
        have g1 := hget 1 (by simp)
        have g2 := hget 2 (by simp)
        rw [Deep.add_add] at g0 g1 g2
        exact ⟨(k0, bs s1, bs s2), by simpa using g0, by rw [mk_bs]; simpa using g1, by rw [mk_bs]; simpa using g2, ⟨by rw [bs_len]; exact w1, by rw [bs_len]; exact w2⟩, by rw [bs_len]; exact hb2.1, by rw [bs_len]; exact hb2.2⟩
    haveI : Inhabited Ru := ⟨noR⟩
    obtain ⟨g, hg⟩ := Deep.choose_lt hcell
    have hgy : ∀ (i : Nat) y, ((List.range n).map g)[i]? = some y → i < n ∧ y = g i := fun i y hy => by
      have hi : i < n := by have := (List.getElem?_eq_some_iff.1 hy).1; simpa using this
      rw [List.getElem?_map, List.getElem?_range hi] at hy
      exact ⟨hi, (Option.some.inj hy).symm⟩
    refine ⟨some x, n, cap, (List.range n).map g, rfl, ⟨by simp, fun h0 => ?_⟩, ⟨fun y hy => ?_, by simpa using hroom⟩, hl, (fun h => by cases h), hbulk, fun y hy => ?_⟩
    rotate_left
    · obtain ⟨i, hi, rfl⟩ := List.mem_map.1 hy
      exact (hg i (List.mem_range.1 hi)).2.2.2.1
    · obtain ⟨i, hi, rfl⟩ := List.mem_map.1 hy
      exact (hg i (List.mem_range.1 hi)).2.2.2.2
    obtain ⟨b, off, spot⟩ := x
    have hc := (hg 0 h0).1
    have hspot : spot = none := by simpa [Addr.add] using World.cell?_spot hc
    subst hspot
    refine ⟨b, off, rfl, fun i y hy => ?_⟩
    obtain ⟨hi, rfl⟩ := hgy i y hy
    obtain ⟨e1, e2, e3, _⟩ := hg i hi
    rw [Addr.add_lit] at e1 e2 e3
    rw [← Nat.add_assoc] at e2 e3
    exact ⟨e1, e2, e3⟩
end Go.Proofs.Ytggnglgehobglaa

/- Proved here: for every two slices of rules and every text the law PathmapTwo (what two sets let through, one behind the other, is what their composition lets through, to the same image; what keeps all changes nothing, ahead or behind) returns true, and its arguments read as before. No condition. -/
namespace Go.Proofs.Ytggnglgehobglaa
open Go.RowKit
open Go.ChangeShapes Go.WideShapes Go.ChangeAt
open Go.ChangeMaps (open_string shut_string)

theorem own : ownKnob Try.prog.godebug = none := by kernel_rfl
theorem laidOut : laidOutB Try.prog = true := by kernel_rfl

set_option maxRecDepth 100000 in
theorem pathmapTwo_lifted (os : Os) (started : os.Started) (H : Type) (enc : TypeId × Value → H) :
    ReturnsInHanded {} Try.checked os 4 .any (Rows.pathmapTwoSpec.pre6 enc Try.prog Try.f4 Rows.pathmapTwoRow.domain false) (Rows.pathmapTwoSpec.post enc Try.prog Try.f4 false true false false) := by
  refine returnsInHanded_of_change_sized (C := Try.checked) own started (by kernel_rfl) Try.func4
    (ChangeSpec.witness6 (enc := enc) (C := Try.checked) false ⟨#[], #[.slice none 0 0, .slice none 0 0, .string ⟨#[]⟩], []⟩ 8 (by kernel_rfl) (by kernel_rfl) (by kernel_rfl) (by kernel_rfl)) ?_
  intro W base args ds gs before hval0 hW _ hsz0 _
  have hsz : (DataW.weightsEach Try.prog (Try.f4.params.toList ++ Rows.pathmapTwoSpec.plain.varTypes Try.prog) (ds ++ gs)).all (· ≤ reachBytes) = true := hsz0
  have hval : ∀ (j : Nat) t v, Try.f4.params[j]? = some t → args[j]? = some v → Value.okWide Try.prog W .any base t v := hval0
  have hW' := hW
  obtain ⟨p, q, hA0, hV, rfl, _, _⟩ := hW
  have hA : DataW.TrodAll enc Try.prog W 0 (fun _ => true) true Try.f4.params.toList args.toList ds p := hA0
  rw [Try.params4] at hA hval hsz
  obtain ⟨v0, vs0, d0, ds0, p0, q0, hargs, rfl, rfl, h0, r0⟩ := trodAll_cons hA
  obtain ⟨v1, vs1, d1, ds1, p1, q1, rfl, rfl, rfl, h1, r1⟩ := trodAll_cons r0
  obtain ⟨v2, vs2, d2, ds2, p2, q2, rfl, rfl, rfl, h2, r2⟩ := trodAll_cons r1
  obtain ⟨rfl, rfl, rfl⟩ := trodAll_nil r2
  obtain rfl : args = #[v0, v1, v2] := by cases args; simp_all
  obtain ⟨rfl, rfl⟩ := trodVars_none hV
  have k0 := h0
  have lt0 : ∀ x ∈ p0, x.block < W.heap.size := by obtain ⟨m, hm⟩ := k0; exact DataW.trod_lt m _ _ _ hm
  obtain ⟨a0, n0, c0, l0, rfl, st0, rm0, _⟩ := rules_arg (hval 0 22 v0 rfl rfl) h0 (fun q hq => by
    have := List.all_eq_true.1 hsz q (DataW.weights_mem_each (j := 0) rfl rfl q hq)
    simpa using this)
  have k1 := h1
  have lt1 : ∀ x ∈ p1, x.block < W.heap.size := by obtain ⟨m, hm⟩ := k1; exact DataW.trod_lt m _ _ _ hm
  obtain ⟨a1, n1, c1, l1, rfl, st1, rm1, _⟩ := rules_arg (hval 1 22 v1 rfl rfl) h1 (fun q hq => by
    have := List.all_eq_true.1 hsz q (DataW.weights_mem_each (j := 1) rfl rfl q hq)
    simpa using this)
  obtain ⟨a2, rfl, rfl, rfl, w2⟩ := open_string Try.underlying9 (hval 2 9 v2 rfl rfl) h2
  clear hA0 hval0 hsz0 hsz
  have hn0 : n0 ≤ 100000000000000000 := by have := rm0.room; rw [st0.1] at this; omega
  have hn1 : n1 ≤ 100000000000000000 := by have := rm1.room; rw [st1.1] at this; omega
  refine (pathmapTwo_walk W a0 n0 c0 l0 a1 n1 c1 l1 a2 st0 hn0 rm0.sz st1 hn1 rm1.sz).mono fun e W' ⟨he, bel⟩ => ?_
  subst he
  exact ⟨_, rfl, _, _, _, [], _, [], hW', trodAll_mk1 (shut_bool Try.underlying4 _), (trodAll_cons_mk (Below.trod laidOut (by kernel_rfl) (of_decide_eq_true (by kernel_rfl)) k0 bel lt0) (trodAll_cons_mk (Below.trod laidOut (by kernel_rfl) (of_decide_eq_true (by kernel_rfl)) k1 bel lt1) (trodAll_cons_mk (shut_string Try.underlying9 w2) trodAll_mk0))), rfl, bel.frame _, fun h => by cases h⟩

theorem pathmapTwo_holds : Rows.PathmapTwoSaid :=
  OpenClaim.holds_of_wide 4 Try.f4 rfl rfl rfl rfl rfl rfl rfl ⟨rfl, rfl, rfl, rfl, rfl⟩ rfl rfl rfl rfl rfl (by kernel_rfl) Try.func4 (by kernel_rfl)
    (of_decide_eq_true (by kernel_rfl)) (by unfold Func.isWrapper; first | (rw [if_pos (by decide +kernel)]; kernel_rfl) | (rw [if_neg (by decide +kernel)]; exact ⟨rfl, rfl⟩))
    (fun os started H enc _ => pathmapTwo_lifted os started H enc)
#print axioms pathmapTwo_holds

end Go.Proofs.Ytggnglgehobglaa
