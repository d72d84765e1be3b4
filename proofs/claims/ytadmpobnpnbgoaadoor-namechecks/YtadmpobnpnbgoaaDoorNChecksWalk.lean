/- The walk of NameChecks. -/
import Derived.Test.YtadmpobnpnbgoaaDoorNRefPath
namespace Go.Proofs.YtadmpobnpnbgoaaDoor
open Go.RowKit Go.Shelf

set_option maxRecDepth 100000 in
set_option maxHeartbeats 4000000 in
theorem checks_any (a : ByteArray) (w : World) (ha : a.size ≤ maxLen) :
    Calls Tryd.prog 3 #[.string a] w fun e w' => e = .returned (.bool true) ∧ Below w.heap.size w w' := by
  have hwk := fun w => wakes_any w
  have hca := fun w => cut_any a w ha
  have hA := cutT_size a
  generalize cutT a = A at hca hA
  have h1 := fun w => check_any A w (by unfold maxLen; omega)
  have h2 := fun w => refSpot_any A w (by unfold maxLen; omega)
  have h3 := fun w => path_any A w (by unfold maxLen; omega)
  have h4 := fun w => refPath_any A w (by omega)
  obtain ⟨e1, he1⟩ : ∃ e1, (spot (bs A)).1 = e1 := ⟨_, rfl⟩
  obtain ⟨e2, he2⟩ : ∃ e2, (spot (bs A)).2 = e2 := ⟨_, rfl⟩
  obtain ⟨d1, hd1⟩ : ∃ d1, (pathSpot (bs A)).1 = d1 := ⟨_, rfl⟩
  obtain ⟨d2, hd2⟩ : ∃ d2, (pathSpot (bs A)).2 = d2 := ⟨_, rfl⟩
  simp only [spotV, he1, he2, hd1, hd2] at h1 h2 h3 h4
  have hBc : Below w.heap.size w w := Below.refl _ _
  clear he1 he2 hd1 hd2 ha
  go_enter Tryd.func3, Tryd.ntmps3
  go_wp2_with first
    | (go_at_call 8; refine (hwk _).mono ?_; rintro e wn ⟨rfl, hBn⟩; replace hBc := hBc.trans (hBn.mono hBc.size); clear hBn)
    | (go_at_call 9; refine (hca _).mono ?_; rintro e wn ⟨rfl, rfl⟩)
    | (go_at_call 10; refine (h1 _).mono ?_; rintro e wn ⟨rfl, hBn⟩; replace hBc := hBc.trans (hBn.mono hBc.size); clear hBn)
    | (go_at_call 11; refine (h2 _).mono ?_; rintro e wn ⟨rfl, hBn⟩; replace hBc := hBc.trans (hBn.mono hBc.size); clear hBn)
    | (go_at_call 12; refine (h3 _).mono ?_; rintro e wn ⟨rfl, hBn⟩; replace hBc := hBc.trans (hBn.mono hBc.size); clear hBn)
    | (go_at_call 13; refine (h4 _).mono ?_; rintro e wn ⟨rfl, hBn⟩; replace hBc := hBc.trans (hBn.mono hBc.size); clear hBn)
  go_ret
  exact ⟨rfl, hBc⟩
end Go.Proofs.YtadmpobnpnbgoaaDoor
