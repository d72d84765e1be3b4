import Derived.Test.YthalpnpnbclipaaGreatL44
/- The document's reading of a commit, for all bytes; which bytes are right. -/
namespace Go.Proofs.YthalpnpnbclipaaGreat
open Go.RowKit

attribute [local go_sem] Oper.semAt_some

theorem comC_one : comC [99] = none := by
  have h1 : wordC [] false = (0, [], true) := rfl
  have h2 : numC [] true = (0, [], true) := rfl
  have h3 : textC [] true = (⟨#[]⟩, [], true) := rfl
  have h4 : wordC [] true = (0, [], true) := rfl
  have h0 : (comC0 (List.drop 1 [99])).2.2 = true := by
    show (comC0 []).2.2 = true
    unfold comC0
    simp [h1, h2, parsC, h3, h4]
  unfold comC
  rw [if_pos (show ([99] : List UInt8).head? = some 99 from rfl), if_pos (Or.inl h0)]
set_option maxRecDepth 20000 in
set_option maxHeartbeats 4000000 in
theorem asCommit_not (a : Option Addr) (n c : Nat) (l : List UInt8) (w : World) (hb : Bytes w a n l) (hh : l.head? ≠ some 99) (hn : n ≤ 9223372036854775807) :
    Calls Tryz.prog 57 #[.slice a n c] w fun x w' => x = .returned (.tuple #[cmt 0 none 0 0 ⟨#[]⟩ 0 ⟨#[]⟩, .bool false]) ∧ Below w.heap.size w w' := by
  have b0 := Box5.new w (.int .u64 0) (.slice none 0 0) (.string ⟨#[]⟩) (.int .i64 0) (.string ⟨#[]⟩)
  obtain ⟨x0, x1, x2, x3, x4⟩ := b0.cell
  obtain ⟨v0, v1, v2, v3, v4⟩ := b0.frozen
  obtain ⟨y0, y1, y2, y3, y4⟩ := (b0.all (.int .u64 0) (.slice none 0 0) (.string ⟨#[]⟩) (.int .i64 0) (.string ⟨#[]⟩)).cell
  have hB0 : Below w.heap.size w (w.alloc (.cells #[.int .u64 0, .slice none 0 0, .string ⟨#[]⟩, .int .i64 0, .string ⟨#[]⟩] 39)) := (Below.refl _ _).alloc (Nat.le_refl _) _
  cases l with
  | nil =>
    have h0 : n = 0 := by have := hb.1; simpa using this.symm
    subst h0
    go_enter Tryz.func57, Tryz.ntmps57
    go_wp2
    refine bodyPost_ret (v := .tuple #[cmt 0 none 0 0 ⟨#[]⟩ 0 ⟨#[]⟩, .bool false]) (by simp [results, Tryz.results57, go_sem]) rfl ⟨rfl, by first | exact hB0 | exact below5 hB0 (Nat.le_refl _) _ _ _ _ _⟩
  | cons x t =>
    have hl := hb.1
    obtain ⟨n', rfl⟩ : ∃ n', n = n' + 1 := ⟨t.length, by simpa using hl.symm⟩
    obtain ⟨bk, off0, rfl, hc⟩ := hb.2 (by omega)
    have hlt : bk < w.heap.size := World.block_lt_of_cell? w _ (hc 0 (by omega))
    have c0 : (w.alloc (.cells #[.int .u64 0, .slice none 0 0, .string ⟨#[]⟩, .int .i64 0, .string ⟨#[]⟩] 39)).cell? ⟨bk, off0, none⟩ = some (.int .u8 (x.toNat : Int)) := (World.cell?_of_block (Below.heap_alloc _ _ _ hlt)).trans (head_cell hb rfl)
    have hx : x ≠ 99 := fun e => hh (by rw [e]; rfl)
    have hx2 : ¬ (x.toNat : Int) = 99 := fun e => hx (UInt8.toNat_inj.1 (by simp; omega))
    have z1 : ((x.toNat : Int) == 99) = false := by simp [hx2]
    have z2 : ((x.toNat : Int) != 99) = true := by simp [hx2]
    have i2 : ¬ (n' : Int) + 1 = 0 := by omega
    clear hb hh hl hc
    go_enter Tryz.func57, Tryz.ntmps57
    go_wp2
    refine bodyPost_ret (v := .tuple #[cmt 0 none 0 0 ⟨#[]⟩ 0 ⟨#[]⟩, .bool false]) (by simp [results, Tryz.results57, go_sem]) rfl ⟨rfl, by first | exact hB0 | exact below5 hB0 (Nat.le_refl _) _ _ _ _ _⟩
set_option maxRecDepth 20000 in
set_option maxHeartbeats 4000000 in
theorem asCommit_one (bk off0 : Nat) (w : World) (hb : Bytes w (some ⟨bk, off0, none⟩) 1 [99]) (hlt : bk < w.heap.size) :
    Calls Tryz.prog 57 #[.slice (some ⟨bk, off0, none⟩) 1 1] w fun x w' => x = .returned (.tuple #[cmt 0 none 0 0 ⟨#[]⟩ 0 ⟨#[]⟩, .bool false]) ∧ Below w.heap.size w w' := by
  have c0 : (w.alloc (.cells #[.int .u64 0, .slice none 0 0, .string ⟨#[]⟩, .int .i64 0, .string ⟨#[]⟩] 39)).cell? ⟨bk, off0, none⟩ = some (.int .u8 99) := (World.cell?_of_block (Below.heap_alloc _ _ _ hlt)).trans (head_cell hb rfl)
  have hBz : Below w.heap.size w ((w.alloc (.cells #[.int .u64 0, .slice none 0 0, .string ⟨#[]⟩, .int .i64 0, .string ⟨#[]⟩] 39)).alloc (.cells #[.slice (some ⟨bk, off0, none⟩) 0 0, .bool false] 145)) := ((Below.refl _ _).alloc (Nat.le_refl _) _).alloc (by simp) _
  have HC0 : Hid (Cu ((w.alloc (.cells #[.int .u64 0, .slice none 0 0, .string ⟨#[]⟩, .int .i64 0, .string ⟨#[]⟩] 39)).alloc (.cells #[.slice (some ⟨bk, off0, none⟩) 0 0, .bool false] 145)) (w.heap.size + 1) bk off0 0 [] false) := by
    have hx := World.alloc_heap_new (w.alloc (.cells #[.int .u64 0, .slice none 0 0, .string ⟨#[]⟩, .int .i64 0, .string ⟨#[]⟩] 39)) (.cells #[.slice (some ⟨bk, off0, none⟩) 0 0, .bool false] 145)
    rw [World.size_alloc] at hx
    exact ⟨hx, ⟨rfl, fun h => by simp at h⟩, Nat.le_refl _, by omega, by simp; omega⟩
  have hw0 : Calls Tryz.prog 91 #[.pointer (some ⟨w.heap.size + 1, 0, none⟩)] ((w.alloc (.cells #[.int .u64 0, .slice none 0 0, .string ⟨#[]⟩, .int .i64 0, .string ⟨#[]⟩] 39)).alloc (.cells #[.slice (some ⟨bk, off0, none⟩) 0 0, .bool false] 145)) fun e w' => e = .returned (.int .u64 0) ∧ (∃ off' cp', Cu w' (w.heap.size + 1) bk off' cp' [] true) ∧ ((w.alloc (.cells #[.int .u64 0, .slice none 0 0, .string ⟨#[]⟩, .int .i64 0, .string ⟨#[]⟩] 39)).alloc (.cells #[.slice (some ⟨bk, off0, none⟩) 0 0, .bool false] 145)).grownBy w' (some (w.heap.size + 1)) := word_c _ (w.heap.size + 1) bk off0 0 [] false HC0.out
  have HW : Hid (∀ W o p, Cu W (w.heap.size + 1) bk o p [] true → Calls Tryz.prog 91 #[.pointer (some ⟨w.heap.size + 1, 0, none⟩)] W fun e w' => e = .returned (.int .u64 0) ∧ (∃ off' cp', Cu w' (w.heap.size + 1) bk off' cp' [] true) ∧ W.grownBy w' (some (w.heap.size + 1))) := fun W o p h => word_c W (w.heap.size + 1) bk o p [] true h
  have HX : Hid (∀ W o p, Cu W (w.heap.size + 1) bk o p [] true → Calls Tryz.prog 89 #[.pointer (some ⟨w.heap.size + 1, 0, none⟩)] W fun e w' => e = .returned (.string ⟨#[]⟩) ∧ (∃ off' cp', Cu w' (w.heap.size + 1) bk off' cp' [] true) ∧ W.grownBy w' (some (w.heap.size + 1))) := fun W o p h => text_c W (w.heap.size + 1) bk o p [] true h
  have HU : Hid (∀ W o p, Cu W (w.heap.size + 1) bk o p [] true → Calls Tryz.prog 88 #[.pointer (some ⟨w.heap.size + 1, 0, none⟩)] W fun e w' => e = .returned (.int .i64 0) ∧ (∃ off' cp', Cu w' (w.heap.size + 1) bk off' cp' [] true) ∧ W.grownBy w' (some (w.heap.size + 1))) := fun W o p h => number_c W (w.heap.size + 1) bk o p [] true h
  have HBZ : Hid (Below w.heap.size w ((w.alloc (.cells #[.int .u64 0, .slice none 0 0, .string ⟨#[]⟩, .int .i64 0, .string ⟨#[]⟩] 39)).alloc (.cells #[.slice (some ⟨bk, off0, none⟩) 0 0, .bool false] 145)) ∧ Box5 ((w.alloc (.cells #[.int .u64 0, .slice none 0 0, .string ⟨#[]⟩, .int .i64 0, .string ⟨#[]⟩] 39)).alloc (.cells #[.slice (some ⟨bk, off0, none⟩) 0 0, .bool false] 145)) w.heap.size (.int .u64 0) (.slice none 0 0) (.string ⟨#[]⟩) (.int .i64 0) (.string ⟨#[]⟩)) := ⟨hBz, (Box5.new w (.int .u64 0) (.slice none 0 0) (.string ⟨#[]⟩) (.int .i64 0) (.string ⟨#[]⟩)).kept ((Below.refl _ _).alloc (Nat.le_refl _) _)⟩
  clear hb hBz HC0
  go_enter Tryz.func57, Tryz.ntmps57
  go_wp2_with first
    | (go_at_call 91; refine hw0.mono ?_; clear hw0; rintro e w1 ⟨rfl, ⟨o1, p1, hC1⟩, hG1⟩; have K1 : Hid (CK w (w.heap.size + 1) bk w1.heap.size [] true 0 [] none 0 0 ⟨#[]⟩ 0 ⟨#[]⟩ (w1.alloc (.cells #[.int .u64 0, .slice none 0 0, .string ⟨#[]⟩, .int .i64 0, .string ⟨#[]⟩] 39))) := ck_new HBZ.out.1 HBZ.out.2 hC1 hG1 hlt; obtain ⟨o2, p2, hC2⟩ := K1.out.cu; clear hC1 hG1 HBZ)
    | (go_at_call 88; refine (HU.out _ _ _ hC2).mono ?_; clear HU; rintro e w2 ⟨rfl, hC3, hG3⟩; have K2 : Hid (CK w (w.heap.size + 1) bk w1.heap.size [] true 0 [] none 0 0 ⟨#[]⟩ 0 ⟨#[]⟩ w2) := K1.out.grown hG3 hC3; obtain ⟨o3, p3, hC3'⟩ := hC3; clear hG3 K1 hC2)
  go_loopw [6] (fun i wr => i = .int .i64 0 ∧ wr = w2) (fun _ _ => 0)
  case atStart => exact ⟨rfl, rfl⟩
  case round =>
    obtain ⟨rfl, rfl⟩ := hrel
    go_wp2_with first
      | (go_at_call 89; have _t := K2; refine (HX.out _ _ _ hC3').mono ?_; rintro e w4 ⟨rfl, hC4, hG4⟩; have C4 : Hid (CK w (w.heap.size + 1) bk w1.heap.size [] true 0 [] none 0 0 ⟨#[]⟩ 0 ⟨#[]⟩ w4) := K2.out.grown hG4 hC4; have c4 := C4.out.box.cell.2.2.1; have g4 := C4.out.box.frozen.2.2.1; have C5 : Hid (CK w (w.heap.size + 1) bk w1.heap.size [] true 0 [] none 0 0 ⟨#[]⟩ 0 ⟨#[]⟩ (w4.setCell ⟨w1.heap.size, 2, none⟩ (.string ⟨#[]⟩))) := C4.out.set 2 _ ((box_set C4.out.box).2.2.1 _); obtain ⟨o5, p5, hC5⟩ := C5.out.cu; clear K2 _t hC4 hG4 C4 hC3')
      | (go_at_call 91; refine (HW.out _ _ _ hC5).mono ?_; clear HW; rintro e w5 ⟨rfl, hC6, hG6⟩; have C6 : Hid (CK w (w.heap.size + 1) bk w1.heap.size [] true 0 [] none 0 0 ⟨#[]⟩ 0 ⟨#[]⟩ w5) := C5.out.grown hG6 hC6; have c6 := C6.out.box.cell.2.2.2.1; have g6 := C6.out.box.frozen.2.2.2.1; have C7 : Hid (CK w (w.heap.size + 1) bk w1.heap.size [] true 0 [] none 0 0 ⟨#[]⟩ 0 ⟨#[]⟩ (w5.setCell ⟨w1.heap.size, 3, none⟩ (.int .i64 0))) := C6.out.set 3 _ ((box_set C6.out.box).2.2.2.1 _); obtain ⟨o7, p7, hC7⟩ := C7.out.cu; clear C5 hC5 hC6 hG6 C6 c4 g4)
      | (go_at_call 89; refine (HX.out _ _ _ hC7).mono ?_; rintro e w6 ⟨rfl, hC8, hG8⟩; have C8 : Hid (CK w (w.heap.size + 1) bk w1.heap.size [] true 0 [] none 0 0 ⟨#[]⟩ 0 ⟨#[]⟩ w6) := C7.out.grown hG8 hC8; have c8 := C8.out.box.cell.2.2.2.2; have g8 := C8.out.box.frozen.2.2.2.2; have C9 : Hid (CK w (w.heap.size + 1) bk w1.heap.size [] true 0 [] none 0 0 ⟨#[]⟩ 0 ⟨#[]⟩ (w6.setCell ⟨w1.heap.size, 4, none⟩ (.string ⟨#[]⟩))) := C8.out.set 4 _ ((box_set C8.out.box).2.2.2.2 _); obtain ⟨o9, p9, hC9⟩ := C9.out.cu; obtain ⟨r0, r1, r2, r3⟩ := hC9.cell; obtain ⟨x0, x1, x2, x3, x4⟩ := C9.out.rb.cell; obtain ⟨v0, v1, v2, v3, v4⟩ := C9.out.rb.frozen; clear C7 hC7 hC8 hG8 C8 c6 g6)
    obtain ⟨y0, y1, y2, y3, y4⟩ := (C9.out.rb.all (.int .u64 0) (.slice none 0 0) (.string ⟨#[]⟩) (.int .i64 0) (.string ⟨#[]⟩)).cell
    refine bodyPost_ret (v := .tuple #[cmt 0 none 0 0 ⟨#[]⟩ 0 ⟨#[]⟩, .bool false]) (by simp [results, Tryz.results57, go_sem, y0, y1, y2, y3, y4]) rfl ⟨rfl, below5 C9.out.bel (Nat.le_refl _) _ _ _ _ _⟩
theorem refAsCommit_any (a : Option Addr) (n c : Nat) (l : List UInt8) (w : World) (hb : Bytes w a n l) (hnc : n ≤ c) (hsm : n ≤ 40000) :
    Calls Tryz.prog 57 #[.slice a n c] w fun x w' => ComO (comC l) x w' ∧ Below w.heap.size w w' := by
  by_cases hh : l.head? = some 99
  · have hl := hb.1
    have hn : 1 ≤ n := by cases l with | nil => simp at hh | cons x t => rw [← hl]; simp
    obtain ⟨bk, off0, rfl, hc⟩ := hb.2 (by omega)
    have hlt : bk < w.heap.size := World.block_lt_of_cell? w _ (hc 0 (by omega))
    by_cases hc1 : c = 1
    · subst hc1
      have hn1 : n = 1 := by omega
      subst hn1
      have hl1 : l = [99] := by
        cases l with
        | nil => simp at hh
        | cons x t => simp at hh hl; subst hh; rw [hl]
      subst hl1
      rw [comC_one]
      exact asCommit_one bk off0 w hb hlt
    · exact asCommit_main bk off0 n c l w hb hn hnc hc1 hh hlt hsm
  · have e : comC l = none := by unfold comC; rw [if_neg hh]
    rw [e]
    exact asCommit_not a n c l w hb hh (by omega)
end Go.Proofs.YthalpnpnbclipaaGreat

/- Plain: what the document's reading of a tree tells is what Decode tells. -/
namespace Go.Proofs.YthalpnpnbclipaaGreat
open Go.RowKit

theorem num_at' {s r : List UInt8} {v : Int} (h : numC s false = (v, r, false)) : ∃ X : Nat, X < 16384 ∧ v = (X : Int) ∧ s = short X ++ r := by
  have h' : contN 2 0 s = (v, r, false) := h
  cases s with
  | nil => simp [contN] at h'
  | cons x t =>
    have hx := x.toNat_lt
    by_cases h8 : x.toNat < 128
    · simp [contN, h8] at h'
      obtain ⟨h1, rfl⟩ := h'
      refine ⟨x.toNat, by omega, by omega, ?_⟩
      have : short x.toNat = [x] := by unfold short; rw [shortF_low 9 _ h8]; simp
      rw [this]; rfl
    · cases t with
      | nil => simp [contN, h8] at h'
      | cons y u =>
        have hy := y.toNat_lt
        by_cases h9 : y.toNat < 128
        · simp [contN, h8, h9] at h'
          obtain ⟨h1, rfl, h2⟩ := h'
          refine ⟨x.toNat % 128 + y.toNat * 128, by omega, by omega, ?_⟩
          have e : short (x.toNat % 128 + y.toNat * 128) = [x, y] := by
            unfold short
            rw [shortF_high 8 _ (by omega), shortF_low 8 _ (by omega)]
            have e1 : UInt8.ofNat ((x.toNat % 128 + y.toNat * 128) % 128 + 128) = x := by
              rw [show (x.toNat % 128 + y.toNat * 128) % 128 + 128 = x.toNat by omega]; simp
            have e2 : UInt8.ofNat ((x.toNat % 128 + y.toNat * 128) / 128) = y := by
              rw [show (x.toNat % 128 + y.toNat * 128) / 128 = y.toNat by omega]; simp
            rw [e1, e2]
          rw [e]; rfl
        · simp [contN, h8, h9] at h'
theorem num_of' (X : Nat) (hX : X < 16384) (r : List UInt8) : numC (short X ++ r) false = ((X : Int), r, false) := by
  show contN 2 0 (short X ++ r) = _
  unfold short
  by_cases h8 : X < 128
  · rw [shortF_low 9 _ h8]
    have e : (UInt8.ofNat X).toNat = X := by rw [UInt8.toNat_ofNat']; omega
    simp [contN, e, h8]
    omega
  · rw [shortF_high 8 _ h8, shortF_low 8 _ (by omega)]
    have e : (UInt8.ofNat (X % 128 + 128)).toNat = X % 128 + 128 := by rw [UInt8.toNat_ofNat']; omega
    have e2 : (UInt8.ofNat (X / 128)).toNat = X / 128 := by rw [UInt8.toNat_ofNat']; omega
    have g1 : ¬ X % 128 + 128 < 128 := by omega
    have g2 : X / 128 < 128 := by omega
    have g3 : ¬ X / 128 = 0 := by omega
    simp only [List.cons_append, List.nil_append, contN, e, e2, if_neg g1, if_pos g2]
    simp [g3]
    omega
theorem word_at' {s r : List UInt8} {f : Bool} {v : Int} (h : wordC s f = (v, r, false)) : f = false ∧ ∃ X : Nat, X < 18446744073709551616 ∧ v = (X : Int) ∧ s = wide X ++ r := by
  unfold wordC at h
  by_cases hb : f = true ∨ s.length < 8
  · rw [if_pos hb] at h; simp at h
  · rw [if_neg hb] at h
    simp only [Prod.mk.injEq, and_true] at h
    have hf : f = false := by cases f with | true => exact absurd (.inl rfl) hb | false => rfl
    have hl : 8 ≤ s.length := by
      by_cases h8 : s.length < 8
      · exact absurd (.inr h8) hb
      · omega
    have hlo := wideVal_lo s 8
    have hfi := wideVal_fits s 8 (by omega)
    obtain ⟨X, hX⟩ := Int.eq_ofNat_of_zero_le hlo
    have hb2 := wide_back (s.take 8) (by rw [List.length_take]; omega) X (by omega) (by rw [wv_take s 8 8 (Nat.le_refl _)]; exact hX)
    refine ⟨hf, X, by omega, by rw [← h.1]; exact hX, ?_⟩
    rw [← hb2, ← h.2, List.take_append_drop]
theorem word_of' (X : Nat) (hX : X < 18446744073709551616) (r : List UInt8) : wordC (wide X ++ r) false = ((X : Int), r, false) := by
  unfold wordC
  rw [if_neg (by rintro (h | h); · cases h
                 · simp [owide_len] at h; omega)]
  have h1 := owideVal_wide X r 8 (by omega) (by omega)
  rw [h1]
  simp [owide_len]
theorem text_at' {s r : List UInt8} {f : Bool} {nm : ByteArray} (h : textC s f = (nm, r, false)) : f = false ∧ s = (short nm.size ++ nm.data.toList) ++ r ∧ nm.size < 16384 := by
  unfold textC at h
  by_cases hb : (numC s f).2.2 = true ∨ (numC s f).2.1.length < (numC s f).1.toNat
  · rw [if_pos hb] at h; simp at h
  · rw [if_neg hb] at h
    simp only [Prod.mk.injEq, and_true] at h
    have hf : f = false := by
      cases f with
      | true => exact absurd (.inl rfl) hb
      | false => rfl
    subst hf
    obtain ⟨⟨v, t, g⟩, hN⟩ : ∃ y, y = numC s false := ⟨_, rfl⟩
    rw [← hN] at h hb
    simp only at h hb
    have hg : g = false := by cases g with | true => exact absurd (.inl rfl) hb | false => rfl
    subst hg
    obtain ⟨X, hX, rfl, hs⟩ := num_at' hN.symm
    simp only [Int.toNat_natCast] at h hb
    have hl : X ≤ t.length := by
      by_cases h8 : t.length < X
      · exact absurd (.inr h8) hb
      · omega
    have hd : nm.data.toList = t.take X := by rw [← h.1]
    have hz : nm.size = X := by
      have : nm.data.toList.length = nm.size := Array.length_toList
      rw [← this, hd, List.length_take]; omega
    refine ⟨rfl, ?_, by omega⟩
    rw [hs, hz, hd, ← h.2, List.append_assoc, List.take_append_drop]
theorem text_of' (nm : ByteArray) (hn : nm.size < 16384) (r : List UInt8) : textC ((short nm.size ++ nm.data.toList) ++ r) false = (nm, r, false) := by
  have hsl : nm.data.toList.length = nm.size := Array.length_toList
  have h1 := num_of' nm.size hn (nm.data.toList ++ r)
  rw [List.append_assoc]
  unfold textC
  rw [h1]
  simp only [Int.toNat_natCast]
  rw [if_neg (by rintro (h | h); · cases h
                 · simp [hsl] at h; omega)]
  rw [List.take_append_of_le_length (by omega), List.take_of_length_le (by omega), List.drop_append]
  simp [hsl]
theorem ent_at' {s r : List UInt8} {x : Ent} (h : entC s = (x, r, false)) : s = entB x ++ r ∧ (0 ≤ x.2.2 ∧ x.2.2 < 18446744073709551616) ∧ x.1.size < 16384 := by
  unfold entC at h
  obtain ⟨⟨nm, ts, tw⟩, hT⟩ : ∃ y, y = textC s false := ⟨_, rfl⟩
  rw [← hT] at h
  cases tw with
  | true => simp at h
  | false =>
    cases ts with
    | nil => simp at h
    | cons c t =>
      simp only at h
      obtain ⟨⟨v, u, g⟩, hW⟩ : ∃ y, y = wordC t (decide (1 < c.toNat)) := ⟨_, rfl⟩
      rw [← hW] at h
      simp only [Prod.mk.injEq] at h
      obtain ⟨hx, rfl, rfl⟩ := h
      obtain ⟨hc, X, hX, rfl, ht⟩ := word_at' hW.symm
      obtain ⟨_, hs, hsz⟩ := text_at' hT.symm
      subst hx
      have hc' : ¬ 1 < c.toNat := of_decide_eq_false hc
      refine ⟨?_, ⟨by show (0 : Int) ≤ (X : Int); omega, by show (X : Int) < _; omega⟩, hsz⟩
      have e : (if decide (c.toNat = 1) = true then (1 : UInt8) else 0) = c := by
        by_cases h1 : c.toNat = 1
        · simp [h1]; exact UInt8.toNat_inj.1 (by rw [h1]; rfl)
        · simp [h1]; exact UInt8.toNat_inj.1 (by simp; omega)
      unfold entB
      simp only [Int.toNat_natCast]
      rw [e, hs, ht]
      simp
theorem ent_of' (x : Ent) (h1 : x.1.size < 16384) (h2 : 0 ≤ x.2.2 ∧ x.2.2 < 18446744073709551616) (r : List UInt8) : entC (entB x ++ r) = (x, r, false) := by
  obtain ⟨nm, fo, id⟩ := x
  simp only at h1 h2
  obtain ⟨X, rfl⟩ := Int.eq_ofNat_of_zero_le h2.1
  have e : entB (nm, fo, (X : Int)) ++ r = (short nm.size ++ nm.data.toList) ++ ((if fo = true then 1 else 0) :: (wide X ++ r)) := by simp [entB]
  rw [e]
  unfold entC
  rw [text_of' nm h1]
  simp only
  have h3 : decide (1 < (if fo = true then (1 : UInt8) else 0).toNat) = false := by cases fo <;> rfl
  have h4 : decide ((if fo = true then (1 : UInt8) else 0).toNat = 1) = fo := by cases fo <;> rfl
  rw [h3, h4, word_of' X (by omega) r]
theorem ents_at' : ∀ (k : Nat) (s r : List UInt8) (f : Bool) (acc R : List Ent), entsC k s f acc = (R, r, false) → f = false ∧ ∃ M, R = acc ++ M ∧ M.length = k ∧ s = entsB M ++ r ∧ ∀ x ∈ M, (0 ≤ x.2.2 ∧ x.2.2 < 18446744073709551616) ∧ x.1.size < 16384
  | 0, s, r, f, acc, R, h => by
    simp only [entsC, Prod.mk.injEq] at h
    obtain ⟨rfl, rfl, rfl⟩ := h
    exact ⟨rfl, [], by simp, rfl, by simp [entsB], fun x hx => by simp at hx⟩
  | k + 1, s, r, f, acc, R, h => by
    unfold entsC at h
    cases f with
    | true => simp at h
    | false =>
      rw [if_neg (by simp)] at h
      obtain ⟨⟨x, u, g⟩, hE⟩ : ∃ y, y = entC s := ⟨_, rfl⟩
      rw [← hE] at h
      simp only at h
      obtain ⟨hg, M, h1, h2, h3, h4⟩ := ents_at' k u r g _ R h
      subst hg
      obtain ⟨e1, e2, e3⟩ := ent_at' hE.symm
      refine ⟨rfl, x :: M, by rw [h1]; simp, by simp [h2], by rw [e1, h3]; simp [entsB], fun y hy => ?_⟩
      rcases List.mem_cons.1 hy with rfl | hy
      · exact ⟨e2, e3⟩
      · exact h4 y hy
theorem ents_of' : ∀ (M : List Ent) (r : List UInt8) (acc : List Ent), (∀ x ∈ M, (0 ≤ x.2.2 ∧ x.2.2 < 18446744073709551616) ∧ x.1.size < 16384) → entsC M.length (entsB M ++ r) false acc = (acc ++ M, r, false)
  | [], r, acc, _ => by simp [entsC, entsB]
  | x :: M, r, acc, h => by
    have e : entsB (x :: M) ++ r = entB x ++ (entsB M ++ r) := by simp [entsB]
    rw [List.length_cons, e, entsC, if_neg (by simp), ent_of' x (h x (by simp)).2 (h x (by simp)).1]
    simp only
    rw [ents_of' M r _ (fun y hy => h y (by simp [hy]))]
    simp
theorem decG_of {o : Ob} (ok : ObOk o) (h0 : obErr o = 0) : decG (obB o) = some o := by
  have := decR_obB o ok []
  rw [List.append_nil] at this
  unfold decG
  rw [this]
  cases o <;> simp [h0]
theorem tree_iff (l : List UInt8) (hl : l.length ≤ 549755813888) (R : List Ent) : treeC l = some R ↔ decG l = some (.tree R) := by
  constructor
  · intro h
    unfold treeC at h
    by_cases hh : l.head? = some 116
    · rw [if_pos hh] at h
      obtain ⟨t, rfl⟩ : ∃ t, l = 116 :: t := by
        cases l with
        | nil => simp at hh
        | cons x t => simp at hh; subst hh; exact ⟨t, rfl⟩
      simp only [List.drop_succ_cons, List.drop_zero] at h
      obtain ⟨⟨v, us, uw⟩, hN⟩ : ∃ y, y = numC t false := ⟨_, rfl⟩
      rw [← hN] at h
      simp only at h
      obtain ⟨⟨P, r, g⟩, hE⟩ : ∃ y, y = entsC v.toNat us uw [] := ⟨_, rfl⟩
      rw [← hE] at h
      simp only at h
      by_cases hq : g = true ∨ r ≠ [] ∨ treeErrs P ≠ 0
      · rw [if_pos hq] at h; cases h
      · rw [if_neg hq] at h
        cases h
        have hg : g = false := by cases g with | true => exact absurd (.inl rfl) hq | false => rfl
        have hr : r = [] := by
          by_cases hr : r = []
          · exact hr
          · exact absurd (.inr (.inl hr)) hq
        have h0 : treeErrs R = 0 := by
          by_cases h0 : treeErrs R = 0
          · exact h0
          · exact absurd (.inr (.inr h0)) hq
        subst hg hr
        obtain ⟨hu, M, h1, h2, h3, h4⟩ := ents_at' _ _ _ _ _ _ hE.symm
        subst hu
        simp only [List.nil_append, List.append_nil] at h1 h3
        subst h1
        obtain ⟨X, hX, rfl, ht⟩ := num_at' hN.symm
        simp only [Int.toNat_natCast] at h2
        have hf : Fields R := ⟨fun j x hx => by have := (h4 x (List.mem_of_getElem? hx)).2; unfold maxLen; omega, fun j x hx => (h4 x (List.mem_of_getElem? hx)).1⟩
        obtain ⟨f1, f2⟩ := fits_of hf h0
        have ok : ObOk (.tree R) := ⟨fun x hx => by
          obtain ⟨j, hj⟩ := List.mem_iff_getElem?.1 hx
          exact ⟨f2.name j x hj, f2.id j x hj⟩, by omega⟩
        have e : 116 :: t = obB (.tree R) := by rw [ht, h3, ← h2]; rfl
        rw [e]
        exact decG_of ok h0
    · rw [if_neg hh] at h; cases h
  · intro h
    obtain ⟨h1, h2, h3, h4⟩ := decG_some h hl
    have h0 : treeErrs R = 0 := h2
    have hf : Fields R := fields_ok h4.1
    obtain ⟨f1, f2⟩ := fits_of hf h0
    rw [← h3]
    unfold treeC
    have e : obB (.tree R) = 116 :: (short R.length ++ (entsB R ++ [])) := by simp [obB, treeB]
    rw [e]
    simp only [List.drop_succ_cons, List.drop_zero]
    rw [if_pos (by rfl), num_of' R.length (by omega)]
    simp only [Int.toNat_natCast]
    rw [ents_of' R [] [] (fun x hx => by
      have := h4.1 x hx
      exact ⟨this.2, by have := this.1; omega⟩)]
    simp [h0]
theorem pars_at' : ∀ (k : Nat) (s r : List UInt8) (f : Bool) (acc R : List Int), parsC k s f acc = (R, r, false) → f = false ∧ ∃ M, R = acc ++ M ∧ M.length = k ∧ s = parsB M ++ r ∧ ∀ x ∈ M, 0 ≤ x ∧ x < 18446744073709551616
  | 0, s, r, f, acc, R, h => by
    simp only [parsC, Prod.mk.injEq] at h
    obtain ⟨rfl, rfl, rfl⟩ := h
    exact ⟨rfl, [], by simp, rfl, by simp [parsB], fun x hx => by simp at hx⟩
  | k + 1, s, r, f, acc, R, h => by
    unfold parsC at h
    cases f with
    | true => simp at h
    | false =>
      rw [if_neg (by simp)] at h
      obtain ⟨⟨v, u, g⟩, hE⟩ : ∃ y, y = wordC s false := ⟨_, rfl⟩
      rw [← hE] at h
      simp only at h
      obtain ⟨hg, M, h1, h2, h3, h4⟩ := pars_at' k u r g _ R h
      subst hg
      obtain ⟨_, X, hX, rfl, hs⟩ := word_at' hE.symm
      refine ⟨rfl, (X : Int) :: M, by rw [h1]; simp, by simp [h2], by rw [hs, h3]; simp [parsB], fun y hy => ?_⟩
      rcases List.mem_cons.1 hy with rfl | hy
      · omega
      · exact h4 y hy
theorem pars_of' : ∀ (M : List Int) (r : List UInt8) (acc : List Int), (∀ x ∈ M, 0 ≤ x ∧ x < 18446744073709551616) → parsC M.length (parsB M ++ r) false acc = (acc ++ M, r, false)
  | [], r, acc, _ => by simp [parsC, parsB]
  | x :: M, r, acc, h => by
    obtain ⟨o1, o2⟩ := h x (by simp)
    obtain ⟨X, rfl⟩ := Int.eq_ofNat_of_zero_le o1
    have e : parsB ((X : Int) :: M) ++ r = wide X ++ (parsB M ++ r) := by simp [parsB]
    rw [List.length_cons, e, parsC, if_neg (by simp), word_of' X (by omega)]
    simp only
    rw [pars_of' M r _ (fun y hy => h y (by simp [hy]))]
    simp
theorem com_iff (l : List UInt8) (hl : l.length ≤ 549755813888) (c : ComD) : comC l = some c ↔ decG l = some (.com c) := by
  constructor
  · intro h
    unfold comC at h
    by_cases hh : l.head? = some 99
    · rw [if_pos hh] at h
      obtain ⟨t, rfl⟩ : ∃ t, l = 99 :: t := by
        cases l with
        | nil => simp at hh
        | cons x t => simp at hh; subst hh; exact ⟨t, rfl⟩
      simp only [List.drop_succ_cons, List.drop_zero] at h
      by_cases hq : (comC0 t).2.2 = true ∨ (comC0 t).2.1 ≠ [] ∨ comErr (comC0 t).1.1 (comC0 t).1.2.1 (comC0 t).1.2.2.1 (comC0 t).1.2.2.2.2 ≠ 0
      · rw [if_pos hq] at h; cases h
      · rw [if_neg hq] at h
        simp only [Option.some.injEq] at h
        rw [h] at hq
        have hg : (comC0 t).2.2 = false := by
          cases hb : (comC0 t).2.2 with
          | true => exact absurd (.inl hb) hq
          | false => rfl
        have hr : (comC0 t).2.1 = [] := by
          by_cases hr : (comC0 t).2.1 = []
          · exact hr
          · exact absurd (.inr (.inl hr)) hq
        have h0 : comErr c.1 c.2.1 c.2.2.1 c.2.2.2.2 = 0 := by
          by_cases h0 : comErr c.1 c.2.1 c.2.2.1 c.2.2.2.2 = 0
          · exact h0
          · exact absurd (.inr (.inr h0)) hq
        clear hq
        unfold comC0 at h hg hr
        simp only at h hg hr
        obtain ⟨⟨tv, s1, f1⟩, e1⟩ : ∃ y, y = wordC t false := ⟨_, rfl⟩
        rw [← e1] at h hg hr
        simp only at h hg hr
        obtain ⟨⟨uv, s2, f2⟩, e2⟩ : ∃ y, y = numC s1 f1 := ⟨_, rfl⟩
        rw [← e2] at h hg hr
        simp only at h hg hr
        obtain ⟨⟨ps, s3, f3⟩, e3⟩ : ∃ y, y = parsC uv.toNat s2 f2 [] := ⟨_, rfl⟩
        rw [← e3] at h hg hr
        simp only at h hg hr
        obtain ⟨⟨av, s4, f4⟩, e4⟩ : ∃ y, y = textC s3 f3 := ⟨_, rfl⟩
        rw [← e4] at h hg hr
        simp only at h hg hr
        obtain ⟨⟨dv, s5, f5⟩, e5⟩ : ∃ y, y = wordC s4 f4 := ⟨_, rfl⟩
        rw [← e5] at h hg hr
        simp only at h hg hr
        obtain ⟨⟨xv, s6, f6⟩, e6⟩ : ∃ y, y = textC s5 f5 := ⟨_, rfl⟩
        rw [← e6] at h hg hr
        simp only at h hg hr
        subst hg hr
        obtain ⟨rfl, g6, _⟩ := text_at' e6.symm
        obtain ⟨rfl, Dn, hDn, rfl, g5⟩ := word_at' e5.symm
        obtain ⟨rfl, g4, _⟩ := text_at' e4.symm
        obtain ⟨rfl, M, m1, m2, g3, m4⟩ := pars_at' _ _ _ _ _ _ e3.symm
        have hf1 : f1 = false := by
          cases f1 with
          | true => unfold numC at e2; simp at e2
          | false => rfl
        subst hf1
        obtain ⟨X, hX, rfl, g2⟩ := num_at' e2.symm
        obtain ⟨_, Y, hY, rfl, g1⟩ := word_at' e1.symm
        simp only [List.nil_append, Int.toNat_natCast] at m1 m2
        subst m1
        subst h
        simp only at h0
        obtain ⟨w1, w2, w3⟩ := du_wrap Dn hDn
        obtain ⟨k0, k1, k2, k3⟩ := com_fits h0
        have ok : ObOk (.com ((Y : Int), ps, av, wrap64 (Dn : Int), xv)) := ⟨by show (0 : Int) ≤ (Y : Int) ∧ (Y : Int) < _; omega, m4, by show ps.length < _; omega, k2, ⟨w2, w3⟩, k3⟩
        have e : 99 :: t = obB (.com ((Y : Int), ps, av, wrap64 (Dn : Int), xv)) := by
          rw [g1, g2, g3, g4, g5, g6, ← m2]
          simp [obB, comBB, comB, w1]
        rw [e]
        exact decG_of ok h0
    · rw [if_neg hh] at h; cases h
  · intro h
    obtain ⟨h1, h2, h3, h4⟩ := decG_some h hl
    obtain ⟨tv, ps, av, dv, xv⟩ := c
    have h0 : comErr tv ps av xv = 0 := h2
    obtain ⟨o1, o2, o3, o4, o5, o6⟩ := h4
    simp only at o1 o2 o3 o4 o5 o6
    obtain ⟨k0, k1, k2, k3⟩ := com_fits h0
    obtain ⟨Y, rfl⟩ := Int.eq_ofNat_of_zero_le o1.1
    have e : obB (.com ((Y : Int), ps, av, dv, xv)) = 99 :: (wide Y ++ (short ps.length ++ (parsB ps ++ ((short av.size ++ av.data.toList) ++ (wide (du dv) ++ ((short xv.size ++ xv.data.toList) ++ [])))))) := by simp [obB, comBB, comB]
    have hcc : comC0 (wide Y ++ (short ps.length ++ (parsB ps ++ ((short av.size ++ av.data.toList) ++ (wide (du dv) ++ ((short xv.size ++ xv.data.toList) ++ [])))))) = (((Y : Int), ps, av, dv, xv), [], false) := by
      unfold comC0
      simp only
      rw [word_of' Y (by omega)]
      simp only
      rw [num_of' ps.length (by omega)]
      simp only [Int.toNat_natCast]
      rw [pars_of' ps _ [] o2]
      simp only
      rw [text_of' av (by omega)]
      simp only
      rw [word_of' (du dv) (du_eq dv).2]
      simp only
      rw [text_of' xv (by omega), wrap_du dv o5]
      simp
    rw [← h3, e]
    unfold comC
    simp only [List.drop_succ_cons, List.drop_zero]
    rw [if_pos (by rfl), hcc]
    simp [h0]
end Go.Proofs.YthalpnpnbclipaaGreat
