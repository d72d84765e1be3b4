/- The walk of NameMoves. -/
import Derived.Test.YtadmpobnpnbgoaaDoorNRefJoin
namespace Go.Proofs.YtadmpobnpnbgoaaDoor
open Go.RowKit Go.Shelf

set_option maxRecDepth 100000 in
set_option maxHeartbeats 8000000 in
theorem moves_any (a b c : ByteArray) (w : World) (ha : a.size ≤ maxLen) (hb : b.size ≤ maxLen) (hc : c.size ≤ maxLen) :
    Calls Tryd.prog 6 #[.string a, .string b, .string c] w fun e w' => e = .returned (.bool true) ∧ Below w.heap.size w w' := by
  have hwk := fun w => wakes_any w
  have hca := fun w => cut_any a w ha
  have hcb := fun w => cut_any b w hb
  have hcc := fun w => cut_any c w hc
  have hA := cutT_size a
  have hB := cutT_size b
  have hC := cutT_size c
  generalize cutT a = A at hca hA
  generalize cutT b = B at hcb hB
  generalize cutT c = C at hcc hC
  have h1 := fun w => refMove_any A B C w (by omega) (by omega) (by omega)
  have h2 := fun w => Move_any A B C w (by omega) (by omega) (by omega)
  have h3 := fun w => refRest_any A B w (by omega) (by omega)
  have h4 := fun w => Rest_any A B w (by omega) (by omega)
  have h5 := fun w => In_any A B w (by omega) (by omega)
  generalize mk (moveP (bs A) (bs B) (bs C)).1 = M at h1 h2
  generalize (moveP (bs A) (bs B) (bs C)).2 = me at h1 h2
  generalize (if isP (bs A) && isP (bs B) then restS A B else ⟨#[]⟩) = S at h3 h4
  generalize inP (bs A) (bs B) = v at h3 h4 h5
  have hBc : Below w.heap.size w w := Below.refl _ _
  clear ha hb hc
  go_enter Tryd.func6, Tryd.ntmps6
  go_wp2_with first
    | (go_at_call 8; refine (hwk _).mono ?_; rintro e wn ⟨rfl, hBn⟩; replace hBc := hBc.trans (hBn.mono hBc.size); clear hBn)
    | (go_at_call 9; refine (hca _).mono ?_; clear hca; rintro e wn ⟨rfl, rfl⟩)
    | (go_at_call 9; refine (hcb _).mono ?_; clear hcb; rintro e wn ⟨rfl, rfl⟩)
    | (go_at_call 9; refine (hcc _).mono ?_; clear hcc; rintro e wn ⟨rfl, rfl⟩)
    | (go_at_call 23; refine (h1 _).mono ?_; rintro e wn ⟨rfl, hBn⟩; replace hBc := hBc.trans (hBn.mono hBc.size); clear hBn)
    | (go_at_call 24; refine (h2 _).mono ?_; rintro e wn ⟨rfl, hBn⟩; replace hBc := hBc.trans (hBn.mono hBc.size); clear hBn)
    | (go_at_call 25; refine (h3 _).mono ?_; rintro e wn ⟨rfl, hBn⟩; replace hBc := hBc.trans (hBn.mono hBc.size); clear hBn)
    | (go_at_call 26; refine (h4 _).mono ?_; rintro e wn ⟨rfl, hBn⟩; replace hBc := hBc.trans (hBn.mono hBc.size); clear hBn)
    | (go_at_call 27; refine (h5 _).mono ?_; rintro e wn ⟨rfl, hBn⟩; replace hBc := hBc.trans (hBn.mono hBc.size); clear hBn)
  go_ret
  exact ⟨rfl, hBc⟩
end Go.Proofs.YtadmpobnpnbgoaaDoor
