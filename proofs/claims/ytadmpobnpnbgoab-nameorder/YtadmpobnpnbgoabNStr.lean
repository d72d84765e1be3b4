/- The walks of strings.Contains at a stroke, and of strings.Compare. -/
import Derived.Test.YtadmpobnpnbgoabNCmp
import Derived.Lib.Bytealg
import Derived.Lib.Walk
namespace Go.Proofs.Ytadmpobnpnbgoab
open Go.RowKit Go.Shelf
open Go.Lib (compareBytes indexByte)

theorem index_mem : ∀ (l : List UInt8) (c : UInt8), 0 ≤ indexByte l c ↔ c ∈ l
  | [], c => by simp [indexByte]
  | b :: l, c => by
    have ih := index_mem l c
    have hg := Go.Lib.indexByte_ge l c
    unfold indexByte
    by_cases h : b = c
    · subst h; simp
    · have h' : ¬ c = b := fun e => h e.symm
      simp only [List.mem_cons, h', false_or]
      rw [← ih]
      simp [h]
      split <;> omega

set_option maxHeartbeats 1000000 in
theorem lite_indexByte (s : ByteArray) (w : World) : Calls Try.prog 58 #[.string s, .int .u8 47] w fun e w' => e = .returned (.int .i64 (indexByte (bs s) 47)) ∧ w' = w := by
  go_enter Try.func58, Try.ntmps58
  go_wp2
  rw [run_callFunc_extern Try.func64 (by kernel_rfl) (by kernel_rfl) (by kernel_rfl) (e := Extern.BytealgIndexByte.indexByte) (by kernel_rfl), Lib.run_indexByteString]
  simp only [Result.andThen]
  rw [Oper.upon_value]
  go_wp2
  go_ret
  exact ⟨rfl, rfl⟩
set_option maxRecDepth 20000 in
set_option maxHeartbeats 2000000 in
theorem lite_index (s : ByteArray) (w : World) : Calls Try.prog 49 #[.string s, .string ⟨#[47]⟩] w fun e w' => e = .returned (.int .i64 (indexByte (bs s) 47)) ∧ w' = w := by
  by_cases h : s.toList = [47]
  · have e : bs s = [47] := (toList_bs s).symm.trans h
    have e1 : indexByte (bs s) 47 = 0 := by rw [e]; rfl
    rw [e1]
    go_enter Try.func49, Try.ntmps49
    go_wp2
    go_ret
    exact ⟨rfl, rfl⟩
  · have b1 : ([47] == s.toList) = false := beq_eq_false_iff_ne.2 (fun e => h e.symm)
    have h' : ¬ [47] = s.toList := fun e => h e.symm
    have hx := fun w => lite_indexByte s w
    generalize indexByte (bs s) 47 = r at hx ⊢
    go_enter Try.func49, Try.ntmps49
    go_wp2_with (go_at_call 58; refine (hx _).mono ?_; rintro e w' ⟨rfl, rfl⟩)
    go_ret
    exact ⟨rfl, rfl⟩
theorem index_stroke (s : ByteArray) (w : World) : Calls Try.prog 36 #[.string s, .string ⟨#[47]⟩] w fun e w' => e = .returned (.int .i64 (indexByte (bs s) 47)) ∧ w' = w := by
  have hx := lite_index s w
  generalize indexByte (bs s) 47 = r at hx ⊢
  go_enter Try.func36, Try.ntmps36
  go_wp2_with (go_at_call 49; refine hx.mono ?_; rintro e w' ⟨rfl, rfl⟩)
  go_ret
  exact ⟨rfl, rfl⟩
theorem contains_stroke (s : ByteArray) (w : World) : Calls Try.prog 22 #[.string s, .string ⟨#[47]⟩] w fun e w' => e = .returned (.bool (decide ((47 : UInt8) ∈ bs s))) ∧ w' = w := by
  have hx := index_stroke s w
  have hm := index_mem (bs s) 47
  have H : Hid (decide (0 ≤ indexByte (bs s) 47) = decide ((47 : UInt8) ∈ bs s)) := decide_eq_decide.2 hm
  clear hm
  generalize indexByte (bs s) 47 = r at hx H
  go_enter Try.func22, Try.ntmps22
  go_wp2_with (go_at_call 36; refine hx.mono ?_; rintro e w' ⟨rfl, rfl⟩)
  go_ret
  exact ⟨by rw [← H.out]; rfl, rfl⟩
set_option maxHeartbeats 1000000 in
theorem bytealg_cmp (a b : ByteArray) (w : World) : Calls Try.prog 37 #[.string a, .string b] w fun e w' => e = .returned (.int .i64 (compareBytes (bs a) (bs b))) ∧ w' = w := by
  go_enter Try.func37, Try.ntmps37
  go_wp2
  rw [run_callFunc_extern Try.func50 (by kernel_rfl) (by kernel_rfl) (by kernel_rfl) (e := Extern.BytealgCompare.compare) (by kernel_rfl), Lib.run_compareString]
  simp only [Result.andThen]
  rw [Oper.upon_value]
  go_wp2
  go_ret
  exact ⟨rfl, rfl⟩
theorem str_cmp (a b : ByteArray) (w : World) : Calls Try.prog 23 #[.string a, .string b] w fun e w' => e = .returned (.int .i64 (compareBytes (bs a) (bs b))) ∧ w' = w := by
  have hx := bytealg_cmp a b w
  generalize compareBytes (bs a) (bs b) = r at hx ⊢
  go_enter Try.func23, Try.ntmps23
  go_wp2_with (go_at_call 37; refine hx.mono ?_; rintro e w' ⟨rfl, rfl⟩)
  go_ret
  exact ⟨rfl, rfl⟩
end Go.Proofs.Ytadmpobnpnbgoab
