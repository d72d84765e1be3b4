/- A slice of texts that came in, opened, with its bulk. -/
import Derived.Test.YtfppfbalhhbjdaaDoorQLine
import Derived.Test.YtfppfbalhhbjdaaDoorRows
import Derived.ProofKit
import Derived.OpenShut
import Derived.ShutString
import Derived.ChangeOld
import Derived.SizedLaws
import Derived.Deep.Slices
import Derived.SliceStrings
namespace Go.Proofs.YtfppfbalhhbjdaaDoor
open Go.ChangeShapes Go.WideShapes Go.ChangeAt Go.RowKit

theorem bulk_strs {H : Type} : ∀ l : List ByteArray, Rows.uptoBulkAll (H := H) (strs l) = (l.map ByteArray.size).sum + l.length
  | [] => rfl
  | x :: r => by
    have ih := bulk_strs (H := H) r
    show Rows.uptoBulkAll (H := H) (.lit (.string x.data.toList) :: strs r) = _
    simp only [Rows.uptoBulkAll, Rows.uptoBulk, List.map_cons, List.sum_cons, List.length_cons]
    rw [ih]
    have e : x.data.toList.length = x.size := by simp
    omega

theorem strs_arg {H : Type} {enc : TypeId × Value → H} {W : World} {base : Nat} {v : Value} {d : DataW H} {ps : List MemPlace} (hok : Value.okWide Tryd.prog W .any base 27 v)
    (h : DataW.Trod enc Tryd.prog W 0 (fun _ => true) true 27 v d ps) :
    ∃ a n c l, v = .slice a n c ∧ Strs W a n l ∧ n ≤ c ∧ c ≤ maxLen ∧ (a = none → n = 0 ∧ c = 0) ∧ (l.map ByteArray.size).sum + l.length ≤ Rows.uptoBulk d := by
  obtain ⟨a, n, cap, rfl⟩ := okWide_slice Tryd.underlying27 hok
  obtain ⟨fuel, hf⟩ := h
  rcases open_strings Tryd.underlying27 Tryd.underlying9 (by kernel_rfl) hf with ⟨hcs, _⟩ | ⟨x, len, c, ss, hcs, _, hl, hm, hz, hx, hcell, hsz⟩
  · simp [Value.cells] at hcs
    obtain ⟨rfl, rfl, rfl⟩ := hcs
    exact ⟨none, 0, 0, [], rfl, ⟨rfl, fun h0 => by omega⟩, Nat.le_refl _, Nat.zero_le _, fun _ => ⟨rfl, rfl⟩, Nat.zero_le _⟩
  · simp [Value.cells] at hcs
    obtain ⟨rfl, rfl, rfl⟩ := hcs
    simp only [if_true] at hz
    obtain ⟨rfl, -⟩ := Prod.mk.inj hx
    refine ⟨some x, n, cap, ss.take n, rfl, ⟨by rw [List.length_take]; omega, fun h0 => ?_⟩, hl, hm, (fun h => by cases h), ?_⟩
    · obtain ⟨b, off, spot⟩ := x
      have hc := hcell 0 (by omega)
      have hspot : spot = none := by simpa [Addr.add] using World.cell?_spot hc
      subst hspot
      refine ⟨b, off, rfl, fun j y hy => ?_⟩
      have hj : j < n := by have := (List.getElem?_eq_some_iff.1 hy).1; rw [List.length_take] at this; omega
      have hcj := hcell j (by omega)
      rw [Addr.add_lit] at hcj
      rw [hcj]
      rw [List.getElem?_take_of_lt hj] at hy
      rw [List.getD_eq_getElem?_getD, hy]; rfl
    · simp only [Rows.uptoBulk]
      rw [bulk_strs]; omega
end Go.Proofs.YtfppfbalhhbjdaaDoor
