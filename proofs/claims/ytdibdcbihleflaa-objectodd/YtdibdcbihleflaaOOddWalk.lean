/- The walk of the law ObjectOdd. -/
import Derived.Test.YtdibdcbihleflaaOOdd2
namespace Go.Proofs.Ytdibdcbihleflaa
open Go.RowKit

theorem ix0 (v : Fin 4 → Value) (w : World) : (Instr.index 68 (.agg #[v 0, v 1, v 2, v 3]) (.int .i64 0)).run Try.prog w = .ok (v 0) w := by
  kernel_rfl
theorem ix1 (v : Fin 4 → Value) (w : World) : (Instr.index 68 (.agg #[v 0, v 1, v 2, v 3]) (.int .i64 1)).run Try.prog w = .ok (v 1) w := by
  kernel_rfl
theorem ix2 (v : Fin 4 → Value) (w : World) : (Instr.index 68 (.agg #[v 0, v 1, v 2, v 3]) (.int .i64 2)).run Try.prog w = .ok (v 2) w := by
  kernel_rfl
theorem ix3 (v : Fin 4 → Value) (w : World) : (Instr.index 68 (.agg #[v 0, v 1, v 2, v 3]) (.int .i64 3)).run Try.prog w = .ok (v 3) w := by
  kernel_rfl

set_option maxRecDepth 20000 in
set_option maxHeartbeats 4000000 in
theorem objectOdd_walk (a : Option Addr) (n c : Nat) (t : Int) (pa : Option Addr) (pn pc : Nat) (au : ByteArray) (d : Int) (tx : ByteArray) (w : World) :
    Calls Try.prog 7 #[.slice a n c, .agg #[.int .u64 t, .slice pa pn pc, .string au, .int .i64 d, .string tx]] w fun e w' => e = .returned (.bool true) ∧ Below w.heap.size w w' := by
  have hB0 : Below w.heap.size w (w.alloc (.cells #[.int .u64 t, .slice pa pn pc, .string au, .int .i64 d, .string tx] 42)) := (Below.refl _ w).alloc (Nat.le_refl _) _
  go_enter Try.func7, Try.ntmps7
  go_wp2_with (go_at_call 9; refine (wakes_any _).mono ?_; rintro e w1 ⟨rfl, hB1⟩; have HB1 : Hid (Below w.heap.size w ((w1.alloc (.cells #[.slice a n c] 25)).alloc (.cells #[.slice none 0 0] 35))) := (((hB0.trans (hB1.mono hB0.size)).alloc (by have := hB0.size; have := hB1.size; omega) _).alloc (by have := hB0.size; have := hB1.size; simp at *; omega) _); clear hB0 hB1)
  go_loopw [28] (fun i wr => ∃ k : Nat, k ≤ 4 ∧ i = .int .i64 (k : Int) ∧ Hid (Below w.heap.size w wr)) (fun i _ => 4 - (intOf i).toNat)
  case atStart => exact ⟨0, by omega, rfl, HB1.out⟩
  case round =>
    obtain ⟨k, hk, rfl, H⟩ := hrel
    clear HB1
    by_cases h4 : k = 4
    · subst h4
      go_wp2_with (go_at_call 9; refine (wakes_any _).mono ?_; rintro e w9 ⟨rfl, hB9⟩)
      go_ret
      exact ⟨rfl, H.out.trans (hB9.mono H.out.size)⟩
    · have hk3 : k = 0 ∨ k = 1 ∨ k = 2 ∨ k = 3 := by omega
      rcases hk3 with rfl | rfl | rfl | rfl
      · have hix : ∀ W, (Instr.index 68 (.agg #[.nilIface, .iface 65 (.pointer (some ⟨w1.heap.size, 0, none⟩)), .iface 66 (.pointer (some ⟨w1.heap.size + 1, 0, none⟩)), .iface 67 (.pointer (some ⟨w.heap.size, 0, none⟩))]) (.int .i64 0)).run Try.prog W = .ok (.nilIface) W := fun W => ix0 (fun i => match i with | 0 => .nilIface | 1 => .iface 65 (.pointer (some ⟨w1.heap.size, 0, none⟩)) | 2 => .iface 66 (.pointer (some ⟨w1.heap.size + 1, 0, none⟩)) | 3 => .iface 67 (.pointer (some ⟨w.heap.size, 0, none⟩))) W
        have ho : Odd (.nilIface) := odd_nil
        have c1 := fun W => Encode_odd _ ho W
        have c2 := fun W => Of_odd _ ho W
        have c3 := fun W => Blob_odd _ ho W
        have c4 := fun W => Tree_odd _ ho W
        have c5 := fun W => Commit_odd _ ho W
        have c6 := fun W => Check_odd _ ho W
        have c7 := fun W => Kind_odd _ ho W
        have c8 := fun W => Links_odd _ ho W
        have c9 := fun W => Copy_odd _ ho W
        have s1 := fun W => Same_odd _ (.nilIface) ho W
        have s2 := fun W => Same_odd _ (.iface 35 (.agg #[.slice none 0 0])) ho W
        have s3 := fun W => Same_tree_odd _ ho W
        have f1 := fun W => falls_odd _ ho 0 (.inl rfl) W
        have f2 := fun W => falls_odd _ ho 1 (.inr rfl) W
        clear ho
        go_wp2_with first
          | (go_at_call 29; refine (c1 _).mono ?_; rintro e x1 ⟨rfl, h1⟩; subst h1)
          | (go_at_call 30; refine (c2 _).mono ?_; rintro e x2 ⟨rfl, h2⟩; subst h2)
          | (go_at_call 13; refine (c3 _).mono ?_; rintro e x3 ⟨rfl, h3⟩; have H3 : Hid (Below w.heap.size w (x3.alloc (.cells #[.slice none 0 0] 25))) := ((H.out.trans (h3.mono H.out.size)).alloc (by have := H.out.size; have := h3.size; omega) _); clear h3)
          | (go_at_call 14; refine (c4 _).mono ?_; rintro e x4 ⟨rfl, h4'⟩; have H4 : Hid (Below w.heap.size w (x4.alloc (.cells #[.slice none 0 0] 35))) := ((H3.out.trans (h4'.mono H3.out.size)).alloc (by have := H3.out.size; have := h4'.size; omega) _); clear h4')
          | (go_at_call 15; refine (c5 _).mono ?_; rintro e x5 ⟨rfl, h5⟩; have H5 : Hid (Below w.heap.size w (x5.alloc (.cells #[.int .u64 0, .slice none 0 0, .string ⟨#[]⟩, .int .i64 0, .string ⟨#[]⟩] 42))) := ((H4.out.trans (h5.mono H4.out.size)).alloc (by have := H4.out.size; have := h5.size; omega) _); clear h5)
          | (go_at_call 31; refine (c6 _).mono ?_; rintro e x6 ⟨rfl, h6⟩; subst h6)
          | (go_at_call 32; refine (c7 _).mono ?_; rintro e x7 ⟨rfl, h7⟩; subst h7)
          | (go_at_call 33; refine (c8 _).mono ?_; rintro e x8 ⟨rfl, h8⟩; subst h8)
          | (go_at_call 16; refine (c9 _).mono ?_; rintro e x9 ⟨rfl, h9⟩; subst h9)
          | (go_at_call 34; refine (s1 _).mono ?_; clear s1; rintro e y1 ⟨rfl, g1⟩; subst g1)
          | (go_at_call 34; refine (s2 _).mono ?_; clear s2; rintro e y2 ⟨rfl, g2⟩; subst g2)
          | (go_at_call 34; refine (s3 _).mono ?_; clear s3; rintro e y3 ⟨rfl, g3⟩; have H6 : Hid (Below w.heap.size w y3) := H5.out.trans (g3.mono H5.out.size); clear g3)
          | (go_at_call 35; refine (f1 _).mono ?_; clear f1; rintro e y4 ⟨rfl, g4⟩; have H7 : Hid (Below w.heap.size w y4) := H6.out.trans (g4.mono H6.out.size); clear g4)
          | (go_at_call 35; refine (f2 _).mono ?_; clear f2; rintro e y5 ⟨rfl, g5⟩; have H8 : Hid (Below w.heap.size w y5) := H7.out.trans (g5.mono H7.out.size); clear g5)
        go_roundw
        case rel => exact ⟨0 + 1, by omega, by simp, H8.out⟩
        case measure => simp [intOf]
      · have hix : ∀ W, (Instr.index 68 (.agg #[.nilIface, .iface 65 (.pointer (some ⟨w1.heap.size, 0, none⟩)), .iface 66 (.pointer (some ⟨w1.heap.size + 1, 0, none⟩)), .iface 67 (.pointer (some ⟨w.heap.size, 0, none⟩))]) (.int .i64 1)).run Try.prog W = .ok (.iface 65 (.pointer (some ⟨w1.heap.size, 0, none⟩))) W := fun W => ix1 (fun i => match i with | 0 => .nilIface | 1 => .iface 65 (.pointer (some ⟨w1.heap.size, 0, none⟩)) | 2 => .iface 66 (.pointer (some ⟨w1.heap.size + 1, 0, none⟩)) | 3 => .iface 67 (.pointer (some ⟨w.heap.size, 0, none⟩))) W
        have ho : Odd (.iface 65 (.pointer (some ⟨w1.heap.size, 0, none⟩))) := odd_iface _ _ (by decide) (by decide) (by decide)
        have c1 := fun W => Encode_odd _ ho W
        have c2 := fun W => Of_odd _ ho W
        have c3 := fun W => Blob_odd _ ho W
        have c4 := fun W => Tree_odd _ ho W
        have c5 := fun W => Commit_odd _ ho W
        have c6 := fun W => Check_odd _ ho W
        have c7 := fun W => Kind_odd _ ho W
        have c8 := fun W => Links_odd _ ho W
        have c9 := fun W => Copy_odd _ ho W
        have s1 := fun W => Same_odd _ (.iface 65 (.pointer (some ⟨w1.heap.size, 0, none⟩))) ho W
        have s2 := fun W => Same_odd _ (.iface 35 (.agg #[.slice none 0 0])) ho W
        have s3 := fun W => Same_tree_odd _ ho W
        have f1 := fun W => falls_odd _ ho 0 (.inl rfl) W
        have f2 := fun W => falls_odd _ ho 1 (.inr rfl) W
        clear ho
        go_wp2_with first
          | (go_at_call 29; refine (c1 _).mono ?_; rintro e x1 ⟨rfl, h1⟩; subst h1)
          | (go_at_call 30; refine (c2 _).mono ?_; rintro e x2 ⟨rfl, h2⟩; subst h2)
          | (go_at_call 13; refine (c3 _).mono ?_; rintro e x3 ⟨rfl, h3⟩; have H3 : Hid (Below w.heap.size w (x3.alloc (.cells #[.slice none 0 0] 25))) := ((H.out.trans (h3.mono H.out.size)).alloc (by have := H.out.size; have := h3.size; omega) _); clear h3)
          | (go_at_call 14; refine (c4 _).mono ?_; rintro e x4 ⟨rfl, h4'⟩; have H4 : Hid (Below w.heap.size w (x4.alloc (.cells #[.slice none 0 0] 35))) := ((H3.out.trans (h4'.mono H3.out.size)).alloc (by have := H3.out.size; have := h4'.size; omega) _); clear h4')
          | (go_at_call 15; refine (c5 _).mono ?_; rintro e x5 ⟨rfl, h5⟩; have H5 : Hid (Below w.heap.size w (x5.alloc (.cells #[.int .u64 0, .slice none 0 0, .string ⟨#[]⟩, .int .i64 0, .string ⟨#[]⟩] 42))) := ((H4.out.trans (h5.mono H4.out.size)).alloc (by have := H4.out.size; have := h5.size; omega) _); clear h5)
          | (go_at_call 31; refine (c6 _).mono ?_; rintro e x6 ⟨rfl, h6⟩; subst h6)
          | (go_at_call 32; refine (c7 _).mono ?_; rintro e x7 ⟨rfl, h7⟩; subst h7)
          | (go_at_call 33; refine (c8 _).mono ?_; rintro e x8 ⟨rfl, h8⟩; subst h8)
          | (go_at_call 16; refine (c9 _).mono ?_; rintro e x9 ⟨rfl, h9⟩; subst h9)
          | (go_at_call 34; refine (s1 _).mono ?_; clear s1; rintro e y1 ⟨rfl, g1⟩; subst g1)
          | (go_at_call 34; refine (s2 _).mono ?_; clear s2; rintro e y2 ⟨rfl, g2⟩; subst g2)
          | (go_at_call 34; refine (s3 _).mono ?_; clear s3; rintro e y3 ⟨rfl, g3⟩; have H6 : Hid (Below w.heap.size w y3) := H5.out.trans (g3.mono H5.out.size); clear g3)
          | (go_at_call 35; refine (f1 _).mono ?_; clear f1; rintro e y4 ⟨rfl, g4⟩; have H7 : Hid (Below w.heap.size w y4) := H6.out.trans (g4.mono H6.out.size); clear g4)
          | (go_at_call 35; refine (f2 _).mono ?_; clear f2; rintro e y5 ⟨rfl, g5⟩; have H8 : Hid (Below w.heap.size w y5) := H7.out.trans (g5.mono H7.out.size); clear g5)
        go_roundw
        case rel => exact ⟨1 + 1, by omega, by simp, H8.out⟩
        case measure => simp [intOf]
      · have hix : ∀ W, (Instr.index 68 (.agg #[.nilIface, .iface 65 (.pointer (some ⟨w1.heap.size, 0, none⟩)), .iface 66 (.pointer (some ⟨w1.heap.size + 1, 0, none⟩)), .iface 67 (.pointer (some ⟨w.heap.size, 0, none⟩))]) (.int .i64 2)).run Try.prog W = .ok (.iface 66 (.pointer (some ⟨w1.heap.size + 1, 0, none⟩))) W := fun W => ix2 (fun i => match i with | 0 => .nilIface | 1 => .iface 65 (.pointer (some ⟨w1.heap.size, 0, none⟩)) | 2 => .iface 66 (.pointer (some ⟨w1.heap.size + 1, 0, none⟩)) | 3 => .iface 67 (.pointer (some ⟨w.heap.size, 0, none⟩))) W
        have ho : Odd (.iface 66 (.pointer (some ⟨w1.heap.size + 1, 0, none⟩))) := odd_iface _ _ (by decide) (by decide) (by decide)
        have c1 := fun W => Encode_odd _ ho W
        have c2 := fun W => Of_odd _ ho W
        have c3 := fun W => Blob_odd _ ho W
        have c4 := fun W => Tree_odd _ ho W
        have c5 := fun W => Commit_odd _ ho W
        have c6 := fun W => Check_odd _ ho W
        have c7 := fun W => Kind_odd _ ho W
        have c8 := fun W => Links_odd _ ho W
        have c9 := fun W => Copy_odd _ ho W
        have s1 := fun W => Same_odd _ (.iface 66 (.pointer (some ⟨w1.heap.size + 1, 0, none⟩))) ho W
        have s2 := fun W => Same_odd _ (.iface 35 (.agg #[.slice none 0 0])) ho W
        have s3 := fun W => Same_tree_odd _ ho W
        have f1 := fun W => falls_odd _ ho 0 (.inl rfl) W
        have f2 := fun W => falls_odd _ ho 1 (.inr rfl) W
        clear ho
        go_wp2_with first
          | (go_at_call 29; refine (c1 _).mono ?_; rintro e x1 ⟨rfl, h1⟩; subst h1)
          | (go_at_call 30; refine (c2 _).mono ?_; rintro e x2 ⟨rfl, h2⟩; subst h2)
          | (go_at_call 13; refine (c3 _).mono ?_; rintro e x3 ⟨rfl, h3⟩; have H3 : Hid (Below w.heap.size w (x3.alloc (.cells #[.slice none 0 0] 25))) := ((H.out.trans (h3.mono H.out.size)).alloc (by have := H.out.size; have := h3.size; omega) _); clear h3)
          | (go_at_call 14; refine (c4 _).mono ?_; rintro e x4 ⟨rfl, h4'⟩; have H4 : Hid (Below w.heap.size w (x4.alloc (.cells #[.slice none 0 0] 35))) := ((H3.out.trans (h4'.mono H3.out.size)).alloc (by have := H3.out.size; have := h4'.size; omega) _); clear h4')
          | (go_at_call 15; refine (c5 _).mono ?_; rintro e x5 ⟨rfl, h5⟩; have H5 : Hid (Below w.heap.size w (x5.alloc (.cells #[.int .u64 0, .slice none 0 0, .string ⟨#[]⟩, .int .i64 0, .string ⟨#[]⟩] 42))) := ((H4.out.trans (h5.mono H4.out.size)).alloc (by have := H4.out.size; have := h5.size; omega) _); clear h5)
          | (go_at_call 31; refine (c6 _).mono ?_; rintro e x6 ⟨rfl, h6⟩; subst h6)
          | (go_at_call 32; refine (c7 _).mono ?_; rintro e x7 ⟨rfl, h7⟩; subst h7)
          | (go_at_call 33; refine (c8 _).mono ?_; rintro e x8 ⟨rfl, h8⟩; subst h8)
          | (go_at_call 16; refine (c9 _).mono ?_; rintro e x9 ⟨rfl, h9⟩; subst h9)
          | (go_at_call 34; refine (s1 _).mono ?_; clear s1; rintro e y1 ⟨rfl, g1⟩; subst g1)
          | (go_at_call 34; refine (s2 _).mono ?_; clear s2; rintro e y2 ⟨rfl, g2⟩; subst g2)
          | (go_at_call 34; refine (s3 _).mono ?_; clear s3; rintro e y3 ⟨rfl, g3⟩; have H6 : Hid (Below w.heap.size w y3) := H5.out.trans (g3.mono H5.out.size); clear g3)
          | (go_at_call 35; refine (f1 _).mono ?_; clear f1; rintro e y4 ⟨rfl, g4⟩; have H7 : Hid (Below w.heap.size w y4) := H6.out.trans (g4.mono H6.out.size); clear g4)
          | (go_at_call 35; refine (f2 _).mono ?_; clear f2; rintro e y5 ⟨rfl, g5⟩; have H8 : Hid (Below w.heap.size w y5) := H7.out.trans (g5.mono H7.out.size); clear g5)
        go_roundw
        case rel => exact ⟨2 + 1, by omega, by simp, H8.out⟩
        case measure => simp [intOf]
      · have hix : ∀ W, (Instr.index 68 (.agg #[.nilIface, .iface 65 (.pointer (some ⟨w1.heap.size, 0, none⟩)), .iface 66 (.pointer (some ⟨w1.heap.size + 1, 0, none⟩)), .iface 67 (.pointer (some ⟨w.heap.size, 0, none⟩))]) (.int .i64 3)).run Try.prog W = .ok (.iface 67 (.pointer (some ⟨w.heap.size, 0, none⟩))) W := fun W => ix3 (fun i => match i with | 0 => .nilIface | 1 => .iface 65 (.pointer (some ⟨w1.heap.size, 0, none⟩)) | 2 => .iface 66 (.pointer (some ⟨w1.heap.size + 1, 0, none⟩)) | 3 => .iface 67 (.pointer (some ⟨w.heap.size, 0, none⟩))) W
        have ho : Odd (.iface 67 (.pointer (some ⟨w.heap.size, 0, none⟩))) := odd_iface _ _ (by decide) (by decide) (by decide)
        have c1 := fun W => Encode_odd _ ho W
        have c2 := fun W => Of_odd _ ho W
        have c3 := fun W => Blob_odd _ ho W
        have c4 := fun W => Tree_odd _ ho W
        have c5 := fun W => Commit_odd _ ho W
        have c6 := fun W => Check_odd _ ho W
        have c7 := fun W => Kind_odd _ ho W
        have c8 := fun W => Links_odd _ ho W
        have c9 := fun W => Copy_odd _ ho W
        have s1 := fun W => Same_odd _ (.iface 67 (.pointer (some ⟨w.heap.size, 0, none⟩))) ho W
        have s2 := fun W => Same_odd _ (.iface 35 (.agg #[.slice none 0 0])) ho W
        have s3 := fun W => Same_tree_odd _ ho W
        have f1 := fun W => falls_odd _ ho 0 (.inl rfl) W
        have f2 := fun W => falls_odd _ ho 1 (.inr rfl) W
        clear ho
        go_wp2_with first
          | (go_at_call 29; refine (c1 _).mono ?_; rintro e x1 ⟨rfl, h1⟩; subst h1)
          | (go_at_call 30; refine (c2 _).mono ?_; rintro e x2 ⟨rfl, h2⟩; subst h2)
          | (go_at_call 13; refine (c3 _).mono ?_; rintro e x3 ⟨rfl, h3⟩; have H3 : Hid (Below w.heap.size w (x3.alloc (.cells #[.slice none 0 0] 25))) := ((H.out.trans (h3.mono H.out.size)).alloc (by have := H.out.size; have := h3.size; omega) _); clear h3)
          | (go_at_call 14; refine (c4 _).mono ?_; rintro e x4 ⟨rfl, h4'⟩; have H4 : Hid (Below w.heap.size w (x4.alloc (.cells #[.slice none 0 0] 35))) := ((H3.out.trans (h4'.mono H3.out.size)).alloc (by have := H3.out.size; have := h4'.size; omega) _); clear h4')
          | (go_at_call 15; refine (c5 _).mono ?_; rintro e x5 ⟨rfl, h5⟩; have H5 : Hid (Below w.heap.size w (x5.alloc (.cells #[.int .u64 0, .slice none 0 0, .string ⟨#[]⟩, .int .i64 0, .string ⟨#[]⟩] 42))) := ((H4.out.trans (h5.mono H4.out.size)).alloc (by have := H4.out.size; have := h5.size; omega) _); clear h5)
          | (go_at_call 31; refine (c6 _).mono ?_; rintro e x6 ⟨rfl, h6⟩; subst h6)
          | (go_at_call 32; refine (c7 _).mono ?_; rintro e x7 ⟨rfl, h7⟩; subst h7)
          | (go_at_call 33; refine (c8 _).mono ?_; rintro e x8 ⟨rfl, h8⟩; subst h8)
          | (go_at_call 16; refine (c9 _).mono ?_; rintro e x9 ⟨rfl, h9⟩; subst h9)
          | (go_at_call 34; refine (s1 _).mono ?_; clear s1; rintro e y1 ⟨rfl, g1⟩; subst g1)
          | (go_at_call 34; refine (s2 _).mono ?_; clear s2; rintro e y2 ⟨rfl, g2⟩; subst g2)
          | (go_at_call 34; refine (s3 _).mono ?_; clear s3; rintro e y3 ⟨rfl, g3⟩; have H6 : Hid (Below w.heap.size w y3) := H5.out.trans (g3.mono H5.out.size); clear g3)
          | (go_at_call 35; refine (f1 _).mono ?_; clear f1; rintro e y4 ⟨rfl, g4⟩; have H7 : Hid (Below w.heap.size w y4) := H6.out.trans (g4.mono H6.out.size); clear g4)
          | (go_at_call 35; refine (f2 _).mono ?_; clear f2; rintro e y5 ⟨rfl, g5⟩; have H8 : Hid (Below w.heap.size w y5) := H7.out.trans (g5.mono H7.out.size); clear g5)
        go_roundw
        case rel => exact ⟨3 + 1, by omega, by simp, H8.out⟩
        case measure => simp [intOf]
end Go.Proofs.Ytdibdcbihleflaa
