/- The walks of strings.Contains at a stroke, and of strings.Compare. -/
import Derived.Test.YtadmpobnpnbgoaaDoorNCmp
import Derived.Lib.Bytealg
import Derived.Lib.Walk
namespace Go.Proofs.YtadmpobnpnbgoaaDoor
open Go.RowKit Go.Shelf
open Go.Lib (compareBytes indexByte)

theorem index_mem : ∀ (l : List UInt8) (c : UInt8), 0 ≤ indexByte l c ↔ c ∈ l
  | [], c => by simp [indexByte]
  | b :: l, c => by
    have ih := index_mem l c
    have hg := Go.Lib.indexByte_ge l c
    unfold indexByte
    by_cases h : b = c
    · subst h; simp
    · have h' : ¬ c = b := fun e => h e.symm
      simp only [List.mem_cons, h', false_or]
      rw [← ih]
      simp [h]
      split <;> omega

set_option maxHeartbeats 1000000 in
theorem lite_indexByte (s : ByteArray) (w : World) : Calls Tryd.prog 81 #[.string s, .int .u8 47] w fun e w' => e = .returned (.int .i64 (indexByte (bs s) 47)) ∧ w' = w := by
  go_enter Tryd.func81, Tryd.ntmps81
  go_wp2
  rw [run_callFunc_extern Tryd.func85 (by kernel_rfl) (by kernel_rfl) (by kernel_rfl) (e := Extern.BytealgIndexByte.indexByte) (by kernel_rfl), Lib.run_indexByteString]
  simp only [Result.andThen]
  rw [Oper.upon_value]
  go_wp2
  go_ret
  exact ⟨rfl, rfl⟩
set_option maxRecDepth 20000 in
set_option maxHeartbeats 2000000 in
theorem lite_index (s : ByteArray) (w : World) : Calls Tryd.prog 77 #[.string s, .string ⟨#[47]⟩] w fun e w' => e = .returned (.int .i64 (indexByte (bs s) 47)) ∧ w' = w := by
  by_cases h : s.toList = [47]
  · have e : bs s = [47] := (toList_bs s).symm.trans h
    have e1 : indexByte (bs s) 47 = 0 := by rw [e]; rfl
    rw [e1]
    go_enter Tryd.func77, Tryd.ntmps77
    go_wp2
    go_ret
    exact ⟨rfl, rfl⟩
  · have b1 : ([47] == s.toList) = false := beq_eq_false_iff_ne.2 (fun e => h e.symm)
    have h' : ¬ [47] = s.toList := fun e => h e.symm
    have hx := fun w => lite_indexByte s w
    generalize indexByte (bs s) 47 = r at hx ⊢
    go_enter Tryd.func77, Tryd.ntmps77
    go_wp2_with (go_at_call 81; refine (hx _).mono ?_; rintro e w' ⟨rfl, rfl⟩)
    go_ret
    exact ⟨rfl, rfl⟩
theorem index_stroke (s : ByteArray) (w : World) : Calls Tryd.prog 66 #[.string s, .string ⟨#[47]⟩] w fun e w' => e = .returned (.int .i64 (indexByte (bs s) 47)) ∧ w' = w := by
  have hx := lite_index s w
  generalize indexByte (bs s) 47 = r at hx ⊢
  go_enter Tryd.func66, Tryd.ntmps66
  go_wp2_with (go_at_call 77; refine hx.mono ?_; rintro e w' ⟨rfl, rfl⟩)
  go_ret
  exact ⟨rfl, rfl⟩
set_option maxHeartbeats 1000000 in
theorem bytealg_cmp (a b : ByteArray) (w : World) : Calls Tryd.prog 63 #[.string a, .string b] w fun e w' => e = .returned (.int .i64 (compareBytes (bs a) (bs b))) ∧ w' = w := by
  go_enter Tryd.func63, Tryd.ntmps63
  go_wp2
  rw [run_callFunc_extern Tryd.func73 (by kernel_rfl) (by kernel_rfl) (by kernel_rfl) (e := Extern.BytealgCompare.compare) (by kernel_rfl), Lib.run_compareString]
  simp only [Result.andThen]
  rw [Oper.upon_value]
  go_wp2
  go_ret
  exact ⟨rfl, rfl⟩
theorem str_cmp (a b : ByteArray) (w : World) : Calls Tryd.prog 50 #[.string a, .string b] w fun e w' => e = .returned (.int .i64 (compareBytes (bs a) (bs b))) ∧ w' = w := by
  have hx := bytealg_cmp a b w
  generalize compareBytes (bs a) (bs b) = r at hx ⊢
  go_enter Tryd.func50, Tryd.ntmps50
  go_wp2_with (go_at_call 63; refine hx.mono ?_; rintro e w' ⟨rfl, rfl⟩)
  go_ret
  exact ⟨rfl, rfl⟩
end Go.Proofs.YtadmpobnpnbgoaaDoor
