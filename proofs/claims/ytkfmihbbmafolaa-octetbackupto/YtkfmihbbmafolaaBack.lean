/- Proved here: where the numbers, the texts and the cut hold together at most 1048576 values and letters, the law OctetBack returns true, and its arguments read as before. The condition is the statement's own bound. -/
import Derived.Test.YtkfmihbbmafolaaLaw
import Derived.Test.YtkfmihbbmafolaaBackLaw
import Derived.SliceStrings
import Derived.JoinedCond
namespace Go.Proofs.Ytkfmihbbmafolaa
open Go.ChangeShapes Go.WideShapes Go.ChangeAt Go.RowKit

theorem bulk_pos {H : Type} (d : DataW H) : 1 ≤ Rows.uptoBulk d := by
  cases d with
  | lit l => cases l <;> simp [Rows.uptoBulk]
  | nil => simp [Rows.uptoBulk]
  | ptr d => simp [Rows.uptoBulk]
  | slice x y => simp [Rows.uptoBulk]
  | agg x => simp [Rows.uptoBulk]
  | iface t d => simp [Rows.uptoBulk]
  | map x => simp [Rows.uptoBulk]
  | held x => simp [Rows.uptoBulk]
theorem bulk_len {H : Type} (l : List (DataW H)) : l.length ≤ Rows.uptoBulkAll l := by
  induction l with
  | nil => simp
  | cons d l ih =>
    have := bulk_pos d
    simp only [Rows.uptoBulkAll, List.length_cons]
    omega
theorem bulk_strs {H : Type} (ts : List ByteArray) : (encT ts).length ≤ 10 * Rows.uptoBulkAll (strs (H := H) ts) ∧ ∀ s ∈ ts, s.size ≤ Rows.uptoBulkAll (strs (H := H) ts) := by
  induction ts with
  | nil => simp [encT]
  | cons s ts ih =>
    have hs := short_len s.size
    have hl : s.data.toList.length = s.size := by simp
    have e1 : encT (s :: ts) = (short s.size ++ s.data.toList) ++ encT ts := by simp [encT]
    have e2 : Rows.uptoBulkAll (strs (H := H) (s :: ts)) = s.size + 1 + Rows.uptoBulkAll (strs (H := H) ts) := by
      simp only [strs, List.map_cons, Rows.uptoBulkAll, Rows.uptoBulk, hl]
    rw [e1, e2]
    refine ⟨by rw [List.length_append, List.length_append, hl]; omega, fun t ht => ?_⟩
    rcases List.mem_cons.1 ht with rfl | h
    · omega
    · have := ih.2 t h
      omega
theorem encN_len (ns : List Nat) : (encN ns).length ≤ 18 * ns.length := by
  induction ns with
  | nil => simp [encN]
  | cons x ns ih =>
    have hs := short_len x
    have hw : (wide x).length = 8 := wideTo_len x 8
    have e1 : encN (x :: ns) = (short x ++ wide x) ++ encN ns := by simp [encN]
    rw [e1, List.length_append, List.length_append, List.length_cons]
    omega

theorem nums_arg {H : Type} {enc : TypeId × Value → H} {W : World} {base : Nat} {v : Value} {d : DataW H} {ps : List MemPlace} (hok : Value.okWide Try.prog W .any base 59 v)
    (h : DataW.Trod enc Try.prog W 0 (fun _ => true) true 59 v d ps) :
    ∃ a n cap ns, v = .slice a n cap ∧ Nums W a n ns ∧ n ≤ Rows.uptoBulk d := by
  obtain ⟨a, n, cap, rfl⟩ := okWide_slice Try.underlying59 hok
  obtain ⟨fuel, hf⟩ := h
  rcases open_ints Try.underlying59 Try.underlying23 (by kernel_rfl) hf with ⟨hcs, _⟩ | ⟨x, l, c, zs, hcs, _, hl, _, hz, hx, hcell, hwz⟩
  · simp [Value.cells] at hcs
    obtain ⟨rfl, rfl, rfl⟩ := hcs
    exact ⟨none, 0, 0, [], rfl, ⟨rfl, fun h0 => by omega, by simp⟩, Nat.zero_le _⟩
  · simp [Value.cells] at hcs
    obtain ⟨rfl, rfl, rfl⟩ := hcs
    simp only [Prod.mk.injEq] at hx
    simp only [if_true] at hz
    refine ⟨some x, n, cap, (zs.take n).map Int.toNat, rfl, ⟨by simp; omega, fun h0 => ?_, fun y hy => ?_⟩, ?_⟩
    · obtain ⟨b, off, spot⟩ := x
      have hc := hcell 0 (by omega)
      have hspot : spot = none := by simpa [Addr.add] using World.cell?_spot hc
      subst hspot
      refine ⟨b, off, rfl, fun i hi => ?_⟩
      have hci := hcell i (by omega)
      rw [Addr.add_lit] at hci
      rw [hci]
      have hmem : zs.getD i 0 ∈ zs := getD_mem zs i 0 (by omega)
      have hb := bounds_u64 (hwz _ hmem)
      have e1 : ((zs.take n).map Int.toNat).getD i 0 = (zs.getD i 0).toNat := by simp [List.getD, hi, show i < zs.length by omega]
      rw [e1, Int.toNat_of_nonneg hb.1]
    · obtain ⟨z, hz', rfl⟩ := List.mem_map.1 hy
      have hb := bounds_u64 (hwz z (List.mem_of_mem_take hz'))
      omega
    · rw [hx.1]
      have h1 := bulk_len (lits (H := H) .u64 (zs.take n))
      simp only [lits, List.length_map, List.length_take] at h1
      simp only [Rows.uptoBulk, lits]
      omega

theorem texts_arg {H : Type} {enc : TypeId × Value → H} {W : World} {base : Nat} {v : Value} {d : DataW H} {ps : List MemPlace} (hok : Value.okWide Try.prog W .any base 60 v)
    (h : DataW.Trod enc Try.prog W 0 (fun _ => true) true 60 v d ps) :
    ∃ a n cap ts, v = .slice a n cap ∧ Texts W a n ts ∧ n ≤ Rows.uptoBulk d ∧ (encT ts).length ≤ 10 * Rows.uptoBulk d ∧ ∀ s ∈ ts, s.size ≤ Rows.uptoBulk d := by
  obtain ⟨a, n, cap, rfl⟩ := okWide_slice Try.underlying60 hok
  obtain ⟨fuel, hf⟩ := h
  rcases open_strings Try.underlying60 Try.underlying9 (by kernel_rfl) hf with ⟨hcs, _⟩ | ⟨x, l, c, ss, hcs, _, hl, _, hz, hx, hcell, _⟩
  · simp [Value.cells] at hcs
    obtain ⟨rfl, rfl, rfl⟩ := hcs
    exact ⟨none, 0, 0, [], rfl, ⟨rfl, fun h0 => by omega⟩, Nat.zero_le _, by simp [encT], by simp⟩
  · simp [Value.cells] at hcs
    obtain ⟨rfl, rfl, rfl⟩ := hcs
    simp only [Prod.mk.injEq] at hx
    simp only [if_true] at hz
    have hb := bulk_strs (H := H) (ss.take n)
    have hle : Rows.uptoBulkAll (strs (H := H) (ss.take n)) ≤ Rows.uptoBulk d := by rw [hx.1]; simp only [Rows.uptoBulk]; omega
    have hlen := bulk_len (strs (H := H) (ss.take n))
    have hsl : (strs (H := H) (ss.take n)).length = n := by simp [strs]; omega
    refine ⟨some x, n, cap, ss.take n, rfl, ⟨by simp; omega, fun h0 => ?_⟩, by omega, by omega, fun s hs => by have := hb.2 s hs; omega⟩
    obtain ⟨b, off, spot⟩ := x
    have hc := hcell 0 (by omega)
    have hspot : spot = none := by simpa [Addr.add] using World.cell?_spot hc
    subst hspot
    refine ⟨b, off, rfl, fun i hi => ?_⟩
    have hci := hcell i (by omega)
    rw [Addr.add_lit] at hci
    rw [hci]
    simp [List.getD, hi]

set_option maxRecDepth 100000 in
theorem octetBack_lifted (os : Os) (started : os.Started) (H : Type) (enc : TypeId × Value → H) (F : Stop.Interp) :
    ReturnsInHanded {} Try.checked os 7 .any ((Rows.OpenSpec.upto Rows.octetBackSpec).pre6 enc Try.prog Try.f7 Rows.octetBackUptoRow.domain false) (((Rows.OpenSpec.upto Rows.octetBackSpec).at F).post enc Try.prog Try.f7 false true false false) := by
  refine returnsInHanded_of_cond (C := Try.checked) (s := Rows.OpenSpec.upto Rows.octetBackSpec) (k := Rows.uptoSmall) rfl own started (by kernel_rfl) Try.func7
    (OpenSpec.witness (enc := enc) (C := Try.checked) (s := Rows.OpenSpec.upto Rows.octetBackSpec) (k := Rows.uptoSmall) rfl false ⟨#[], #[.slice none 0 0, .slice none 0 0, .int .i64 0], []⟩ 8 (by kernel_rfl) (by kernel_rfl) (by kernel_rfl)
      (x := ([.nil, .nil, .lit (.int .i64 0)], [], [])) (by kernel_rfl) rfl (by kernel_rfl)) ?_
  intro W base args ds gs before hval0 hW _ hk _
  have hval : ∀ (j : Nat) t v, Try.f7.params[j]? = some t → args[j]? = some v → Value.okWide Try.prog W .any base t v := hval0
  have hW' := hW
  obtain ⟨p, q, hA0, hV, rfl, _, _⟩ := hW
  have hA : DataW.TrodAll enc Try.prog W 0 (fun _ => true) true Try.f7.params.toList args.toList ds p := hA0
  rw [Try.params7] at hA hval
  obtain ⟨v0, vs0, d0, ds0, p0, q0, hargs, rfl, rfl, h0, r0⟩ := trodAll_cons hA
  obtain ⟨v1, vs1, d1, ds1, p1, q1, rfl, rfl, rfl, h1, r1⟩ := trodAll_cons r0
  obtain ⟨v2, vs2, d2, ds2, p2, q2, rfl, rfl, rfl, h2, r2⟩ := trodAll_cons r1
  obtain ⟨rfl, rfl, rfl⟩ := trodAll_nil r2
  obtain rfl : args = #[v0, v1, v2] := by cases args; simp_all
  obtain ⟨rfl, rfl⟩ := trodVars_none hV
  have k0 := h0
  have lt0 : ∀ x ∈ p0, x.block < W.heap.size := by obtain ⟨m, hm⟩ := k0; exact DataW.trod_lt m _ _ _ hm
  have k1 := h1
  have lt1 : ∀ x ∈ p1, x.block < W.heap.size := by obtain ⟨m, hm⟩ := k1; exact DataW.trod_lt m _ _ _ hm
  obtain ⟨a0, n0, cap0, ns, rfl, b0, hn0⟩ := nums_arg (hval 0 59 v0 rfl rfl) h0
  obtain ⟨a1, n1, cap1, ts, rfl, b1, hn1, he1, hs1⟩ := texts_arg (hval 1 60 v1 rfl rfl) h1
  obtain ⟨a2, rfl, rfl, rfl, w2⟩ := open_int Try.underlying3 (hval 2 3 v2 rfl rfl) h2
  have hbulk : Rows.uptoBulkAll [d0, d1, DataW.lit (H := H) (.int .i64 a2)] ≤ 1048576 := by
    have hk' : Rows.uptoSmall H ([d0, d1, DataW.lit (.int .i64 a2)] ++ []) = true := hk
    rw [List.append_nil] at hk'
    exact of_decide_eq_true hk'
  simp only [Rows.uptoBulkAll] at hbulk
  have hln := encN_len ns
  have hlen := b0.len
  clear hA0 hval0 hk
  refine (octetBack_walk a0 a1 n0 cap0 n1 cap1 a2 ns ts W b0 b1 (by omega) (by omega) (fun s hs => by have := hs1 s hs; omega) (by omega)).mono fun e W' ⟨he, bel⟩ => ?_
  subst he
  exact ⟨_, rfl, _, _, _, [], _, [], hW', trodAll_mk1 (shut_bool Try.underlying4 _), trodAll_cons_mk (Below.trod laidOut (by kernel_rfl) (of_decide_eq_true (by kernel_rfl)) k0 bel lt0) (trodAll_cons_mk (Below.trod laidOut (by kernel_rfl) (of_decide_eq_true (by kernel_rfl)) k1 bel lt1) (trodAll_cons_mk (shut_int Try.underlying3 w2) trodAll_mk0)), rfl, bel.frame _, fun h => by cases h⟩

theorem octetBack_holds : Rows.OctetBackUptoSaid :=
  OpenClaim.holds_of_cond 7 Try.f7 rfl rfl rfl rfl rfl rfl rfl ⟨rfl, rfl, rfl, rfl, rfl⟩ rfl rfl rfl rfl rfl (by kernel_rfl) Try.func7 (by kernel_rfl)
    (of_decide_eq_true (by kernel_rfl)) (by unfold Func.isWrapper; first | (rw [if_pos (by decide +kernel)]; kernel_rfl) | (rw [if_neg (by decide +kernel)]; exact ⟨rfl, rfl⟩))
    (fun os started H enc _ F => octetBack_lifted os started H enc F)
#print axioms octetBack_holds

end Go.Proofs.Ytkfmihbbmafolaa
