/- The walk of NameOrders. -/
import Derived.Test.YtadmpobnpnbgoaaDoorNRefOrder
import Derived.Test.YtadmpobnpnbgoaaDoorNRefJoin
namespace Go.Proofs.YtadmpobnpnbgoaaDoor
open Go.RowKit Go.Shelf

set_option maxRecDepth 100000 in
set_option maxHeartbeats 400000 in
theorem orders_at (A B M : ByteArray) (o no : Int) (ho : (o = -1 ∧ no = 1) ∨ (o = 0 ∧ no = 0) ∨ (o = 1 ∧ no = -1)) (a b : ByteArray) (w : World)
    (hca : ∀ w, Calls Tryd.prog 9 #[.string a] w fun e w' => e = .returned (.string A) ∧ w' = w)
    (hcb : ∀ w, Calls Tryd.prog 9 #[.string b] w fun e w' => e = .returned (.string B) ∧ w' = w)
    (h1 : ∀ w, Calls Tryd.prog 29 #[.string A, .string B] w fun e w' => e = .returned (.string M) ∧ Below w.heap.size w w')
    (h2 : ∀ w, Calls Tryd.prog 28 #[.string A, .string B] w fun e w' => e = .returned (.string M) ∧ Below w.heap.size w w')
    (h3 : ∀ w, Calls Tryd.prog 31 #[.string A, .string B] w fun e w' => e = .returned (.int .i64 o) ∧ Below w.heap.size w w')
    (h4 : ∀ w, Calls Tryd.prog 30 #[.string A, .string B] w fun e w' => e = .returned (.int .i64 o) ∧ Below w.heap.size w w')
    (h5 : ∀ w, Calls Tryd.prog 30 #[.string B, .string A] w fun e w' => e = .returned (.int .i64 no) ∧ Below w.heap.size w w') :
    Calls Tryd.prog 7 #[.string a, .string b] w fun e w' => e = .returned (.bool true) ∧ Below w.heap.size w w' := by
  have hwk := fun w => wakes_any w
  have hBc : Below w.heap.size w w := Below.refl _ _
  rcases ho with ⟨rfl, rfl⟩ | ⟨rfl, rfl⟩ | ⟨rfl, rfl⟩
  all_goals
    go_enter Tryd.func7, Tryd.ntmps7
    go_wp2_with first
      | (go_at_call 8; refine (hwk _).mono ?_; rintro e wn ⟨rfl, hBn⟩; replace hBc := hBc.trans (hBn.mono hBc.size); clear hBn)
      | (go_at_call 9; refine (hca _).mono ?_; clear hca; rintro e wn ⟨rfl, rfl⟩)
      | (go_at_call 9; refine (hcb _).mono ?_; clear hcb; rintro e wn ⟨rfl, rfl⟩)
      | (go_at_call 29; refine (h1 _).mono ?_; rintro e wn ⟨rfl, hBn⟩; replace hBc := hBc.trans (hBn.mono hBc.size); clear hBn)
      | (go_at_call 28; refine (h2 _).mono ?_; rintro e wn ⟨rfl, hBn⟩; replace hBc := hBc.trans (hBn.mono hBc.size); clear hBn)
      | (go_at_call 31; refine (h3 _).mono ?_; rintro e wn ⟨rfl, hBn⟩; replace hBc := hBc.trans (hBn.mono hBc.size); clear hBn)
      | (go_at_call 30; refine (h4 _).mono ?_; rintro e wn ⟨rfl, hBn⟩; replace hBc := hBc.trans (hBn.mono hBc.size); clear hBn; clear h4)
      | (go_at_call 30; refine (h5 _).mono ?_; rintro e wn ⟨rfl, hBn⟩; replace hBc := hBc.trans (hBn.mono hBc.size); clear hBn)
    go_ret
    exact ⟨rfl, hBc⟩

theorem orders_any (a b : ByteArray) (w : World) (ha : a.size ≤ maxLen) (hb : b.size ≤ maxLen) :
    Calls Tryd.prog 7 #[.string a, .string b] w fun e w' => e = .returned (.bool true) ∧ Below w.heap.size w w' := by
  have hA := cutT_size a
  have hB := cutT_size b
  have hn := ordP_neg (bs (cutT a)) (bs (cutT b))
  exact orders_at (cutT a) (cutT b) _ _ _ (by
      rcases ordP_range (bs (cutT a)) (bs (cutT b)) with h | h | h
      · exact .inl ⟨h, by rw [hn, h]; rfl⟩
      · exact .inr (.inl ⟨h, by rw [hn, h]; rfl⟩)
      · exact .inr (.inr ⟨h, by rw [hn, h]⟩)) a b w
    (fun w => cut_any a w ha) (fun w => cut_any b w hb)
    (fun w => refCommon_any _ _ w (by omega) (by omega)) (fun w => Common_any _ _ w (by omega) (by omega))
    (fun w => refCompare_any _ _ w (by omega) (by omega)) (fun w => Compare_any _ _ w (by omega) (by omega)) (fun w => Compare_any _ _ w (by omega) (by omega))
end Go.Proofs.YtadmpobnpnbgoaaDoor
