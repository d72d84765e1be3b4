import Derived.Test.YthalpnpnbclipaaGreatL43
import Derived.Deep.Cut
import Derived.Deep.RegionLaw
/- The document's reading of a commit: the walk. -/
namespace Go.Proofs.YthalpnpnbclipaaGreat
open Go.RowKit

attribute [local go_sem] Oper.semAt_some

theorem kept1 {W W' : World} {B n : Nat} {v : Value} {xs : List Value} {t : TypeId} {z : Nat} (h : W.ownsRow B t z v n xs) (hB : Below W.heap.size W W') : W'.ownsRow B t z v n xs :=
  h.kept (row := none) ⟨hB.os, hB.tape, hB.output, hB.size, fun k hk _ => hB.block k hk⟩ (by cases v.ownBlock <;> simp)
theorem own_idsM {W : World} {B n : Nat} {v : Value} {l : List Int} (h : W.ownsRow B 24 1 v n (l.map (Value.int .u64))) : ∃ ad c, v = .slice ad n c ∧ Ids W ad n l := by
  have hn : l.length = n := by have := h.1; rw [List.length_map] at this; omega
  subst hn
  exact own_ids h
section
variable {w W W' : World} {q bk cb : Nat} {s : List UInt8} {f : Bool} {t : Int} {acc : List Int} {ad : Option Addr} {m cp : Nat} {au : ByteArray} {d : Int} {tx : ByteArray}
theorem CK.below (h : CK w q bk cb s f t acc ad m cp au d tx W) (hB : Below W.heap.size W W') : CK w q bk cb s f t acc ad m cp au d tx W' := by
  have := h.low
  exact h.above (hB.mono (by omega)) (h.box.kept hB) (kept1 h.row hB)
theorem ck_com (h : CK w q bk cb s f t acc ad m cp au (wrap64 d) tx W) (ht : 0 ≤ t ∧ t < 18446744073709551616) (hp : ∀ x ∈ acc, 0 ≤ x ∧ x < 18446744073709551616) (ha : au.size ≤ 40000) (hx : tx.size ≤ 40000) (hm : m ≤ 40000) : Com W t ad m cp acc au (wrap64 d) tx := by
  obtain ⟨ad', c', e, h1, h2⟩ := row_shape h.row
  cases e
  obtain ⟨ad', c', e, hI⟩ := own_idsM h.row
  cases e
  exact ⟨ht, hI, hp, ⟨h1, by omega, h2⟩, by unfold maxLen; omega, wrap64_fits d, by unfold maxLen; omega⟩
theorem ck_some (h : CK w q bk cb s f t acc ad m cp au d tx W) (hl : acc.length = m) (u0 u1 u2 u3 u4 : Value) : ComO (some (t, acc, au, d, tx)) (.returned (.tuple #[cmt t ad m cp au d tx, .bool true])) (((((W.setCell ⟨w.heap.size, 0, none⟩ u0).setCell ⟨w.heap.size, 1, none⟩ u1).setCell ⟨w.heap.size, 2, none⟩ u2).setCell ⟨w.heap.size, 3, none⟩ u3).setCell ⟨w.heap.size, 4, none⟩ u4) := by
  have h1 := h.hq
  have h2 := h.hqc
  have hr := own_grown (own_grown (own_grown (own_grown (own_grown h.row (grownBy_setCell _ w.heap.size 0 u0) (by omega)) (grownBy_setCell _ w.heap.size 1 u1) (by omega)) (grownBy_setCell _ w.heap.size 2 u2) (by omega)) (grownBy_setCell _ w.heap.size 3 u3) (by omega)) (grownBy_setCell _ w.heap.size 4 u4) (by omega)
  obtain ⟨ad', c', e, hI⟩ := own_idsM hr
  cases e
  subst hl
  exact ⟨ad, cp, rfl, hI⟩
end

theorem ck_new {w W0 w1 : World} {bk o p : Nat} {s : List UInt8} {f : Bool} {tv : Int} (hB : Below w.heap.size w W0) (hz : Box5 W0 w.heap.size (.int .u64 0) (.slice none 0 0) (.string ⟨#[]⟩) (.int .i64 0) (.string ⟨#[]⟩)) (hC : Cu w1 (w.heap.size + 1) bk o p s f) (hG : W0.grownBy w1 (some (w.heap.size + 1))) (hlt : bk < w.heap.size) :
    CK w (w.heap.size + 1) bk w1.heap.size s f tv [] none 0 0 ⟨#[]⟩ 0 ⟨#[]⟩ (w1.alloc (.cells #[.int .u64 tv, .slice none 0 0, .string ⟨#[]⟩, .int .i64 0, .string ⟨#[]⟩] 39)) := by
  have hq : w.heap.size + 1 < w1.heap.size := (Array.getElem?_eq_some_iff.1 hC.box).1
  have h1 : Below w1.heap.size w1 (w1.alloc (.cells #[.int .u64 tv, .slice none 0 0, .string ⟨#[]⟩, .int .i64 0, .string ⟨#[]⟩] 39)) := (Below.refl _ _).alloc (Nat.le_refl _) _
  have hB1 := below_of_gr hB hG (by omega)
  refine ⟨⟨o, p, hC.kept h1⟩, hB1.trans (h1.mono hB1.size), ?_, Box5.new _ _ _ _ _ _, World.ownsRow_nil _ _ _ _, by simp, rfl, hq, hlt⟩
  have hz1 : Box5 w1 w.heap.size (.int .u64 0) (.slice none 0 0) (.string ⟨#[]⟩) (.int .i64 0) (.string ⟨#[]⟩) := (hG.block _ hz.lt (by simp)).trans hz
  exact hz1.kept h1

set_option maxRecDepth 50000 in
set_option maxHeartbeats 8000000 in
theorem asCommit_main (bk off0 n c : Nat) (l : List UInt8) (w : World) (hb : Bytes w (some ⟨bk, off0, none⟩) n l) (hn : 1 ≤ n) (hnc : n ≤ c) (hc1 : c ≠ 1) (hh : l.head? = some 99) (hlt : bk < w.heap.size) (hsm : n ≤ 40000) :
    Calls Tryz.prog 57 #[.slice (some ⟨bk, off0, none⟩) n c] w fun x w' => ComO (comC l) x w' ∧ Below w.heap.size w w' := by
  have hln := hb.1
  obtain ⟨t, rfl⟩ : ∃ t, l = 99 :: t := by
    cases l with
    | nil => simp at hh
    | cons x t => simp at hh; subst hh; exact ⟨t, rfl⟩
  obtain ⟨n', rfl⟩ : ∃ n', n = n' + 1 := ⟨n - 1, by omega⟩
  have htn : t.length = n' := by simpa using hln
  have c0 : (w.alloc (.cells #[.int .u64 0, .slice none 0 0, .string ⟨#[]⟩, .int .i64 0, .string ⟨#[]⟩] 39)).cell? ⟨bk, off0, none⟩ = some (.int .u8 99) := by
    have := head_cell hb rfl
    exact (World.cell?_of_block (Below.heap_alloc _ _ _ hlt)).trans this
  have hBz : Below w.heap.size w ((w.alloc (.cells #[.int .u64 0, .slice none 0 0, .string ⟨#[]⟩, .int .i64 0, .string ⟨#[]⟩] 39)).alloc (.cells #[.slice (some ⟨bk, off0 + 1, none⟩) n' (c - 1), .bool false] 145)) := ((Below.refl _ _).alloc (Nat.le_refl _) _).alloc (by simp) _
  have HC0 : Hid (Cu ((w.alloc (.cells #[.int .u64 0, .slice none 0 0, .string ⟨#[]⟩, .int .i64 0, .string ⟨#[]⟩] 39)).alloc (.cells #[.slice (some ⟨bk, off0 + 1, none⟩) n' (c - 1), .bool false] 145)) (w.heap.size + 1) bk (off0 + 1) (c - 1) t false) := by
    have hx := World.alloc_heap_new (w.alloc (.cells #[.int .u64 0, .slice none 0 0, .string ⟨#[]⟩, .int .i64 0, .string ⟨#[]⟩] 39)) (.cells #[.slice (some ⟨bk, off0 + 1, none⟩) n' (c - 1), .bool false] 145)
    rw [World.size_alloc] at hx
    refine ⟨by rw [htn]; exact hx, ⟨rfl, fun h0 => ?_⟩, by omega, by omega, by simp; omega⟩
    obtain ⟨b, o, e, hc⟩ := hb.2 (by omega)
    cases e
    refine ⟨bk, off0 + 1, rfl, fun i hi => ?_⟩
    have h1 := hc (i + 1) (by omega)
    rw [bt_cons] at h1
    rw [← h1, show off0 + 1 + i = off0 + (i + 1) by omega]
    exact World.cell?_of_block (hBz.block _ hlt)
  have hw0 := word_c _ (w.heap.size + 1) bk _ _ t false HC0.out
  obtain ⟨RES, hRES⟩ : ∃ RES, RES = parsC (numC (wordC t false).2.1 (wordC t false).2.2).1.toNat (numC (wordC t false).2.1 (wordC t false).2.2).2.1 (numC (wordC t false).2.1 (wordC t false).2.2).2.2 [] := ⟨_, rfl⟩
  obtain ⟨⟨tv, s1, f1⟩, hW1⟩ : ∃ y, y = wordC t false := ⟨_, rfl⟩
  have htf := wordC_fits t false
  have hfin : comC0 t = ((tv, RES.1, (textC RES.2.1 RES.2.2).1, wrap64 (wordC (textC RES.2.1 RES.2.2).2.1 (textC RES.2.1 RES.2.2).2.2).1, (textC (wordC (textC RES.2.1 RES.2.2).2.1 (textC RES.2.1 RES.2.2).2.2).2.1 (wordC (textC RES.2.1 RES.2.2).2.1 (textC RES.2.1 RES.2.2).2.2).2.2).1), (textC (wordC (textC RES.2.1 RES.2.2).2.1 (textC RES.2.1 RES.2.2).2.2).2.1 (wordC (textC RES.2.1 RES.2.2).2.1 (textC RES.2.1 RES.2.2).2.2).2.2).2.1, (textC (wordC (textC RES.2.1 RES.2.2).2.1 (textC RES.2.1 RES.2.2).2.2).2.1 (wordC (textC RES.2.1 RES.2.2).2.1 (textC RES.2.1 RES.2.2).2.2).2.2).2.2) := by unfold comC0; rw [hRES, ← hW1]
  rw [← hW1] at hw0 hRES htf
  simp only at hw0 hRES htf
  obtain ⟨⟨uv, s2, f2⟩, hU1⟩ : ∃ y, y = numC s1 f1 := ⟨_, rfl⟩
  have hnf := numC_fits s1 f1
  rw [← hU1] at hRES hnf
  simp only at hRES hnf
  have HU : Hid (∀ W o p, Cu W (w.heap.size + 1) bk o p s1 f1 → Calls Tryz.prog 88 #[.pointer (some ⟨w.heap.size + 1, 0, none⟩)] W fun e w' => e = .returned (.int .i64 uv) ∧ (∃ off' cp', Cu w' (w.heap.size + 1) bk off' cp' s2 f2) ∧ W.grownBy w' (some (w.heap.size + 1))) := fun W o p h => by have := number_c W (w.heap.size + 1) bk o p s1 f1 h; rw [← hU1] at this; exact this
  obtain ⟨N, rfl⟩ := Int.eq_ofNat_of_zero_le hnf.1
  simp only [Int.toNat_natCast] at hRES
  have HR : Hid (RES = parsC N s2 f2 []) := hRES
  have HFIN : Hid (comC0 t = ((tv, RES.1, (textC RES.2.1 RES.2.2).1, wrap64 (wordC (textC RES.2.1 RES.2.2).2.1 (textC RES.2.1 RES.2.2).2.2).1, (textC (wordC (textC RES.2.1 RES.2.2).2.1 (textC RES.2.1 RES.2.2).2.2).2.1 (wordC (textC RES.2.1 RES.2.2).2.1 (textC RES.2.1 RES.2.2).2.2).2.2).1), (textC (wordC (textC RES.2.1 RES.2.2).2.1 (textC RES.2.1 RES.2.2).2.2).2.1 (wordC (textC RES.2.1 RES.2.2).2.1 (textC RES.2.1 RES.2.2).2.2).2.2).2.1, (textC (wordC (textC RES.2.1 RES.2.2).2.1 (textC RES.2.1 RES.2.2).2.2).2.1 (wordC (textC RES.2.1 RES.2.2).2.1 (textC RES.2.1 RES.2.2).2.2).2.2).2.2)) := hfin
  obtain ⟨D, hDD⟩ : ∃ D, D = comC (99 :: t) := ⟨_, rfl⟩
  rw [← hDD]
  have HD : Hid (D = if (comC0 t).2.2 = true ∨ (comC0 t).2.1 ≠ [] ∨ comErr (comC0 t).1.1 (comC0 t).1.2.1 (comC0 t).1.2.2.1 (comC0 t).1.2.2.2.2 ≠ 0 then none else some (comC0 t).1) := hDD
  have i1 : (1 : Int) ≤ (n' : Int) + 1 := by omega
  have i2 : ¬ (n' : Int) + 1 = 0 := by omega
  have hNle : N ≤ 40000 := by omega
  have HT : Hid (0 ≤ tv ∧ tv < 18446744073709551616) := htf
  have HBZ : Hid (Below w.heap.size w ((w.alloc (.cells #[.int .u64 0, .slice none 0 0, .string ⟨#[]⟩, .int .i64 0, .string ⟨#[]⟩] 39)).alloc (.cells #[.slice (some ⟨bk, off0 + 1, none⟩) n' (c - 1), .bool false] 145)) ∧ Box5 ((w.alloc (.cells #[.int .u64 0, .slice none 0 0, .string ⟨#[]⟩, .int .i64 0, .string ⟨#[]⟩] 39)).alloc (.cells #[.slice (some ⟨bk, off0 + 1, none⟩) n' (c - 1), .bool false] 145)) w.heap.size (.int .u64 0) (.slice none 0 0) (.string ⟨#[]⟩) (.int .i64 0) (.string ⟨#[]⟩)) := ⟨hBz, (Box5.new w (.int .u64 0) (.slice none 0 0) (.string ⟨#[]⟩) (.int .i64 0) (.string ⟨#[]⟩)).kept ((Below.refl _ _).alloc (Nat.le_refl _) _)⟩
  clear hRES hfin hU1 hW1 hDD hb hh hln htn hBz htf hnf
  go_enter Tryz.func57, Tryz.ntmps57
  go_wp2_with first
    | (go_at_call 91; refine hw0.mono ?_; clear hw0; rintro e w1 ⟨rfl, ⟨o1, p1, hC1⟩, hG1⟩; have K1 : Hid (CK w (w.heap.size + 1) bk w1.heap.size s1 f1 tv [] none 0 0 ⟨#[]⟩ 0 ⟨#[]⟩ (w1.alloc (.cells #[.int .u64 tv, .slice none 0 0, .string ⟨#[]⟩, .int .i64 0, .string ⟨#[]⟩] 39))) := ck_new HBZ.out.1 HBZ.out.2 hC1 hG1 hlt; obtain ⟨o2, p2, hC2⟩ := K1.out.cu; clear hC1 hG1 HBZ HC0)
    | (go_at_call 88; refine (HU.out _ _ _ hC2).mono ?_; clear HU; rintro e w2 ⟨rfl, hC3, hG3⟩; have K2 : Hid (CK w (w.heap.size + 1) bk w1.heap.size s2 f2 tv [] none 0 0 ⟨#[]⟩ 0 ⟨#[]⟩ w2) := K1.out.grown hG3 hC3; clear hC3 hG3 K1 hC2)
  go_loopw [6] (fun i wr => ∃ (k : Nat) (s : List UInt8) (f : Bool) (acc : List Int) (ad : Option Addr) (m cp : Nat), m + k ≤ 40000 ∧ i = .int .i64 (k : Int) ∧ Hid (CK w (w.heap.size + 1) bk w1.heap.size s f tv acc ad m cp ⟨#[]⟩ 0 ⟨#[]⟩ wr ∧ RES = parsC k s f acc ∧ ∀ x ∈ acc, 0 ≤ x ∧ x < 18446744073709551616)) (fun i _ => (intOf i).toNat)
  case atStart => exact ⟨N, s2, f2, [], none, 0, 0, by omega, rfl, K2.out, HR.out, fun x hx => by simp at hx⟩
  case round =>
    clear K2 HR hNle
    obtain ⟨k, s, f, acc, ad, m, cp, hmk, rfl, H⟩ := hrel
    obtain ⟨o, p, hC⟩ := H.out.1.cu
    obtain ⟨q0, q1, q2, q3⟩ := hC.cell
    have HPB : Hid (∀ x ∈ acc, 0 ≤ x ∧ x < 18446744073709551616) := H.out.2.2
    cases k with
    | zero =>
      have HRS : Hid (RES = (acc, s, f)) := (by rw [H.out.2.1]; rfl : RES = (acc, s, f))
      have hA := text_c wr (w.heap.size + 1) bk o p s f hC
      obtain ⟨⟨av, s4, f4⟩, hAA⟩ : ∃ y, y = textC s f := ⟨_, rfl⟩
      rw [← hAA] at hA
      simp only at hA
      obtain ⟨⟨dv, s5, f5⟩, hDD⟩ : ∃ y, y = wordC s4 f4 := ⟨_, rfl⟩
      obtain ⟨⟨xv, s6, f6⟩, hXX⟩ : ∃ y, y = textC s5 f5 := ⟨_, rfl⟩
      have hcc : comC0 t = ((tv, acc, av, wrap64 dv, xv), s6, f6) := by rw [HFIN.out, HRS.out]; simp only; rw [← hAA]; simp only; rw [← hDD]; simp only; rw [← hXX]
      have hdd := HD.out
      rw [hcc] at hdd
      simp only at hdd
      have HDX : Hid (D = if f6 = true ∨ s6 ≠ [] ∨ comErr tv acc av xv ≠ 0 then none else some (tv, acc, av, wrap64 dv, xv)) := hdd
      have HW4 : Hid (∀ W o p, Cu W (w.heap.size + 1) bk o p s4 f4 → Calls Tryz.prog 91 #[.pointer (some ⟨w.heap.size + 1, 0, none⟩)] W fun e w' => e = .returned (.int .u64 dv) ∧ (∃ off' cp', Cu w' (w.heap.size + 1) bk off' cp' s5 f5) ∧ W.grownBy w' (some (w.heap.size + 1))) := fun W o p h => by have := word_c W (w.heap.size + 1) bk o p s4 f4 h; rw [← hDD] at this; exact this
      have HX5 : Hid (∀ W o p, Cu W (w.heap.size + 1) bk o p s5 f5 → Calls Tryz.prog 89 #[.pointer (some ⟨w.heap.size + 1, 0, none⟩)] W fun e w' => e = .returned (.string xv) ∧ (∃ off' cp', Cu w' (w.heap.size + 1) bk off' cp' s6 f6) ∧ W.grownBy w' (some (w.heap.size + 1))) := fun W o p h => by have := text_c W (w.heap.size + 1) bk o p s5 f5 h; rw [← hXX] at this; exact this
      have HSZ : Hid (av.size ≤ 40000 ∧ xv.size ≤ 40000) := ⟨by have := textC_size s f; rw [← hAA] at this; exact this, by have := textC_size s5 f5; rw [← hXX] at this; exact this⟩
      have C1 : Hid (CK w (w.heap.size + 1) bk w1.heap.size s f tv acc ad m cp ⟨#[]⟩ 0 ⟨#[]⟩ wr) := H.out.1
      clear hAA hDD hXX hcc hdd H hC HFIN HRS HD
      by_cases hf6 : f6 = true
      · subst hf6
        have hdn : D = none := by rw [HDX.out, if_pos (.inl rfl)]
        clear HDX
        go_wp2_with first
          | (go_at_call 89; refine hA.mono ?_; clear hA; rintro e w4 ⟨rfl, hC4, hG4⟩; have C4 : Hid (CK w (w.heap.size + 1) bk w1.heap.size s4 f4 tv acc ad m cp ⟨#[]⟩ 0 ⟨#[]⟩ w4) := C1.out.grown hG4 hC4; have c4 := C4.out.box.cell.2.2.1; have g4 := C4.out.box.frozen.2.2.1; have C5 : Hid (CK w (w.heap.size + 1) bk w1.heap.size s4 f4 tv acc ad m cp av 0 ⟨#[]⟩ (w4.setCell ⟨w1.heap.size, 2, none⟩ (.string av))) := C4.out.set 2 _ ((box_set C4.out.box).2.2.1 _); obtain ⟨o5, p5, hC5⟩ := C5.out.cu; clear C1 hC4 hG4 C4)
          | (go_at_call 91; refine (HW4.out _ _ _ hC5).mono ?_; clear HW4; rintro e w5 ⟨rfl, hC6, hG6⟩; have C6 : Hid (CK w (w.heap.size + 1) bk w1.heap.size s5 f5 tv acc ad m cp av 0 ⟨#[]⟩ w5) := C5.out.grown hG6 hC6; have c6 := C6.out.box.cell.2.2.2.1; have g6 := C6.out.box.frozen.2.2.2.1; have C7 : Hid (CK w (w.heap.size + 1) bk w1.heap.size s5 f5 tv acc ad m cp av (wrap64 dv) ⟨#[]⟩ (w5.setCell ⟨w1.heap.size, 3, none⟩ (.int .i64 (wrap64 dv)))) := C6.out.set 3 _ ((box_set C6.out.box).2.2.2.1 _); obtain ⟨o7, p7, hC7⟩ := C7.out.cu; clear C5 hC5 hC6 hG6 C6 c4 g4)
          | (go_at_call 89; refine (HX5.out _ _ _ hC7).mono ?_; clear HX5; rintro e w6 ⟨rfl, hC8, hG8⟩; have C8 : Hid (CK w (w.heap.size + 1) bk w1.heap.size s6 true tv acc ad m cp av (wrap64 dv) ⟨#[]⟩ w6) := C7.out.grown hG8 hC8; have c8 := C8.out.box.cell.2.2.2.2; have g8 := C8.out.box.frozen.2.2.2.2; have C9 : Hid (CK w (w.heap.size + 1) bk w1.heap.size s6 true tv acc ad m cp av (wrap64 dv) xv (w6.setCell ⟨w1.heap.size, 4, none⟩ (.string xv))) := C8.out.set 4 _ ((box_set C8.out.box).2.2.2.2 _); obtain ⟨o9, p9, hC9⟩ := C9.out.cu; obtain ⟨r0, r1, r2, r3⟩ := hC9.cell; obtain ⟨z0, z1, z2, z3, z4⟩ := C9.out.box.cell; obtain ⟨x0, x1, x2, x3, x4⟩ := C9.out.rb.cell; obtain ⟨v0, v1, v2, v3, v4⟩ := C9.out.rb.frozen; clear C7 hC7 hC8 hG8 C8 c6 g6)
        obtain ⟨y0, y1, y2, y3, y4⟩ := (C9.out.rb.all (.int .u64 0) (.slice none 0 0) (.string ⟨#[]⟩) (.int .i64 0) (.string ⟨#[]⟩)).cell
        refine bodyPost_ret (v := .tuple #[cmt 0 none 0 0 ⟨#[]⟩ 0 ⟨#[]⟩, .bool false]) (by simp [results, Tryz.results57, go_sem, y0, y1, y2, y3, y4]) rfl ⟨?_, below5 C9.out.bel (Nat.le_refl _) _ _ _ _ _⟩
        rw [hdn]
        rfl
      · have hf7 : f6 = false := by cases f6 with | true => exact absurd rfl hf6 | false => rfl
        subst hf7
        by_cases hs6 : s6 = []
        · subst hs6
          have HCK : Hid (∀ W, CK w (w.heap.size + 1) bk w1.heap.size [] false tv acc ad m cp av (wrap64 dv) xv W → Calls Tryz.prog 68 #[cmt tv ad m cp av (wrap64 dv) xv] W fun e w' => e = .returned (.int .i64 (comErr tv acc av xv)) ∧ Below W.heap.size W w') := fun W h => refCheckCom_any tv ad m cp acc av (wrap64 dv) xv W (ck_com h HT.out HPB.out HSZ.out.1 HSZ.out.2 (by omega))
          obtain ⟨E, hE⟩ : ∃ E, E = comErr tv acc av xv := ⟨_, rfl⟩
          rw [← hE] at HCK HDX
          have hlen : acc.length = m := by have := C1.out.row.1; rw [List.length_map] at this; omega
          have HLN : Hid (acc.length = m) := hlen
          clear hE hlen
          by_cases hE0 : E = 0
          · subst hE0
            have hdn : D = some (tv, acc, av, wrap64 dv, xv) := by rw [HDX.out, if_neg (by simp)]
            clear HDX
            go_wp2_with first
              | (go_at_call 89; refine hA.mono ?_; clear hA; rintro e w4 ⟨rfl, hC4, hG4⟩; have C4 : Hid (CK w (w.heap.size + 1) bk w1.heap.size s4 f4 tv acc ad m cp ⟨#[]⟩ 0 ⟨#[]⟩ w4) := C1.out.grown hG4 hC4; have c4 := C4.out.box.cell.2.2.1; have g4 := C4.out.box.frozen.2.2.1; have C5 : Hid (CK w (w.heap.size + 1) bk w1.heap.size s4 f4 tv acc ad m cp av 0 ⟨#[]⟩ (w4.setCell ⟨w1.heap.size, 2, none⟩ (.string av))) := C4.out.set 2 _ ((box_set C4.out.box).2.2.1 _); obtain ⟨o5, p5, hC5⟩ := C5.out.cu; clear C1 hC4 hG4 C4)
              | (go_at_call 91; refine (HW4.out _ _ _ hC5).mono ?_; clear HW4; rintro e w5 ⟨rfl, hC6, hG6⟩; have C6 : Hid (CK w (w.heap.size + 1) bk w1.heap.size s5 f5 tv acc ad m cp av 0 ⟨#[]⟩ w5) := C5.out.grown hG6 hC6; have c6 := C6.out.box.cell.2.2.2.1; have g6 := C6.out.box.frozen.2.2.2.1; have C7 : Hid (CK w (w.heap.size + 1) bk w1.heap.size s5 f5 tv acc ad m cp av (wrap64 dv) ⟨#[]⟩ (w5.setCell ⟨w1.heap.size, 3, none⟩ (.int .i64 (wrap64 dv)))) := C6.out.set 3 _ ((box_set C6.out.box).2.2.2.1 _); obtain ⟨o7, p7, hC7⟩ := C7.out.cu; clear C5 hC5 hC6 hG6 C6 c4 g4)
              | (go_at_call 89; refine (HX5.out _ _ _ hC7).mono ?_; clear HX5; rintro e w6 ⟨rfl, hC8, hG8⟩; have C8 : Hid (CK w (w.heap.size + 1) bk w1.heap.size [] false tv acc ad m cp av (wrap64 dv) ⟨#[]⟩ w6) := C7.out.grown hG8 hC8; have c8 := C8.out.box.cell.2.2.2.2; have g8 := C8.out.box.frozen.2.2.2.2; have C9 : Hid (CK w (w.heap.size + 1) bk w1.heap.size [] false tv acc ad m cp av (wrap64 dv) xv (w6.setCell ⟨w1.heap.size, 4, none⟩ (.string xv))) := C8.out.set 4 _ ((box_set C8.out.box).2.2.2.2 _); obtain ⟨o9, p9, hC9⟩ := C9.out.cu; obtain ⟨r0, r1, r2, r3⟩ := hC9.cell; obtain ⟨z0, z1, z2, z3, z4⟩ := C9.out.box.cell; clear C7 hC7 hC8 hG8 C8 c6 g6)
              | (go_at_call 68; refine (HCK.out _ C9.out).mono ?_; clear HCK; rintro e w9 ⟨rfl, hB9⟩; have C10 : Hid (CK w (w.heap.size + 1) bk w1.heap.size [] false tv acc ad m cp av (wrap64 dv) xv w9) := C9.out.below hB9; obtain ⟨x0, x1, x2, x3, x4⟩ := C10.out.rb.cell; obtain ⟨v0, v1, v2, v3, v4⟩ := C10.out.rb.frozen; obtain ⟨y5, y6, y7, y8, y9⟩ := C10.out.box.cell; clear C9 hB9)
            obtain ⟨y0, y1, y2, y3, y4⟩ := (C10.out.rb.all (.int .u64 tv) (.slice ad m cp) (.string av) (.int .i64 (wrap64 dv)) (.string xv)).cell
            refine bodyPost_ret (v := .tuple #[cmt tv ad m cp av (wrap64 dv) xv, .bool true]) (by simp [results, Tryz.results57, go_sem, y0, y1, y2, y3, y4]) rfl ⟨?_, below5 C10.out.bel (Nat.le_refl _) _ _ _ _ _⟩
            rw [hdn]
            exact ck_some C10.out HLN.out _ _ _ _ _
          · have e1 : (E == 0) = false := by simp [hE0]
            have e2 : (E != 0) = true := by simp [hE0]
            have hdn : D = none := by rw [HDX.out, if_pos (.inr (.inr hE0))]
            clear HDX
            go_wp2_with first
              | (go_at_call 89; refine hA.mono ?_; clear hA; rintro e w4 ⟨rfl, hC4, hG4⟩; have C4 : Hid (CK w (w.heap.size + 1) bk w1.heap.size s4 f4 tv acc ad m cp ⟨#[]⟩ 0 ⟨#[]⟩ w4) := C1.out.grown hG4 hC4; have c4 := C4.out.box.cell.2.2.1; have g4 := C4.out.box.frozen.2.2.1; have C5 : Hid (CK w (w.heap.size + 1) bk w1.heap.size s4 f4 tv acc ad m cp av 0 ⟨#[]⟩ (w4.setCell ⟨w1.heap.size, 2, none⟩ (.string av))) := C4.out.set 2 _ ((box_set C4.out.box).2.2.1 _); obtain ⟨o5, p5, hC5⟩ := C5.out.cu; clear C1 hC4 hG4 C4)
              | (go_at_call 91; refine (HW4.out _ _ _ hC5).mono ?_; clear HW4; rintro e w5 ⟨rfl, hC6, hG6⟩; have C6 : Hid (CK w (w.heap.size + 1) bk w1.heap.size s5 f5 tv acc ad m cp av 0 ⟨#[]⟩ w5) := C5.out.grown hG6 hC6; have c6 := C6.out.box.cell.2.2.2.1; have g6 := C6.out.box.frozen.2.2.2.1; have C7 : Hid (CK w (w.heap.size + 1) bk w1.heap.size s5 f5 tv acc ad m cp av (wrap64 dv) ⟨#[]⟩ (w5.setCell ⟨w1.heap.size, 3, none⟩ (.int .i64 (wrap64 dv)))) := C6.out.set 3 _ ((box_set C6.out.box).2.2.2.1 _); obtain ⟨o7, p7, hC7⟩ := C7.out.cu; clear C5 hC5 hC6 hG6 C6 c4 g4)
              | (go_at_call 89; refine (HX5.out _ _ _ hC7).mono ?_; clear HX5; rintro e w6 ⟨rfl, hC8, hG8⟩; have C8 : Hid (CK w (w.heap.size + 1) bk w1.heap.size [] false tv acc ad m cp av (wrap64 dv) ⟨#[]⟩ w6) := C7.out.grown hG8 hC8; have c8 := C8.out.box.cell.2.2.2.2; have g8 := C8.out.box.frozen.2.2.2.2; have C9 : Hid (CK w (w.heap.size + 1) bk w1.heap.size [] false tv acc ad m cp av (wrap64 dv) xv (w6.setCell ⟨w1.heap.size, 4, none⟩ (.string xv))) := C8.out.set 4 _ ((box_set C8.out.box).2.2.2.2 _); obtain ⟨o9, p9, hC9⟩ := C9.out.cu; obtain ⟨r0, r1, r2, r3⟩ := hC9.cell; obtain ⟨z0, z1, z2, z3, z4⟩ := C9.out.box.cell; clear C7 hC7 hC8 hG8 C8 c6 g6)
              | (go_at_call 68; refine (HCK.out _ C9.out).mono ?_; clear HCK; rintro e w9 ⟨rfl, hB9⟩; have C10 : Hid (CK w (w.heap.size + 1) bk w1.heap.size [] false tv acc ad m cp av (wrap64 dv) xv w9) := C9.out.below hB9; obtain ⟨x0, x1, x2, x3, x4⟩ := C10.out.rb.cell; obtain ⟨v0, v1, v2, v3, v4⟩ := C10.out.rb.frozen; obtain ⟨y5, y6, y7, y8, y9⟩ := C10.out.box.cell; clear C9 hB9)
            obtain ⟨y0, y1, y2, y3, y4⟩ := (C10.out.rb.all (.int .u64 0) (.slice none 0 0) (.string ⟨#[]⟩) (.int .i64 0) (.string ⟨#[]⟩)).cell
            refine bodyPost_ret (v := .tuple #[cmt 0 none 0 0 ⟨#[]⟩ 0 ⟨#[]⟩, .bool false]) (by simp [results, Tryz.results57, go_sem, y0, y1, y2, y3, y4]) rfl ⟨?_, below5 C10.out.bel (Nat.le_refl _) _ _ _ _ _⟩
            rw [hdn]
            rfl
        · obtain ⟨sl, hsl⟩ : ∃ sl, s6.length = sl + 1 := by
            cases s6 with
            | nil => exact absurd rfl hs6
            | cons x t => exact ⟨t.length, rfl⟩
          have hdn : D = none := by rw [HDX.out, if_pos (.inr (.inl hs6))]
          clear HDX
          go_wp2_with first
            | (go_at_call 89; refine hA.mono ?_; clear hA; rintro e w4 ⟨rfl, hC4, hG4⟩; have C4 : Hid (CK w (w.heap.size + 1) bk w1.heap.size s4 f4 tv acc ad m cp ⟨#[]⟩ 0 ⟨#[]⟩ w4) := C1.out.grown hG4 hC4; have c4 := C4.out.box.cell.2.2.1; have g4 := C4.out.box.frozen.2.2.1; have C5 : Hid (CK w (w.heap.size + 1) bk w1.heap.size s4 f4 tv acc ad m cp av 0 ⟨#[]⟩ (w4.setCell ⟨w1.heap.size, 2, none⟩ (.string av))) := C4.out.set 2 _ ((box_set C4.out.box).2.2.1 _); obtain ⟨o5, p5, hC5⟩ := C5.out.cu; clear C1 hC4 hG4 C4)
            | (go_at_call 91; refine (HW4.out _ _ _ hC5).mono ?_; clear HW4; rintro e w5 ⟨rfl, hC6, hG6⟩; have C6 : Hid (CK w (w.heap.size + 1) bk w1.heap.size s5 f5 tv acc ad m cp av 0 ⟨#[]⟩ w5) := C5.out.grown hG6 hC6; have c6 := C6.out.box.cell.2.2.2.1; have g6 := C6.out.box.frozen.2.2.2.1; have C7 : Hid (CK w (w.heap.size + 1) bk w1.heap.size s5 f5 tv acc ad m cp av (wrap64 dv) ⟨#[]⟩ (w5.setCell ⟨w1.heap.size, 3, none⟩ (.int .i64 (wrap64 dv)))) := C6.out.set 3 _ ((box_set C6.out.box).2.2.2.1 _); obtain ⟨o7, p7, hC7⟩ := C7.out.cu; clear C5 hC5 hC6 hG6 C6 c4 g4)
            | (go_at_call 89; refine (HX5.out _ _ _ hC7).mono ?_; clear HX5; rintro e w6 ⟨rfl, hC8, hG8⟩; have C8 : Hid (CK w (w.heap.size + 1) bk w1.heap.size s6 false tv acc ad m cp av (wrap64 dv) ⟨#[]⟩ w6) := C7.out.grown hG8 hC8; have c8 := C8.out.box.cell.2.2.2.2; have g8 := C8.out.box.frozen.2.2.2.2; have C9 : Hid (CK w (w.heap.size + 1) bk w1.heap.size s6 false tv acc ad m cp av (wrap64 dv) xv (w6.setCell ⟨w1.heap.size, 4, none⟩ (.string xv))) := C8.out.set 4 _ ((box_set C8.out.box).2.2.2.2 _); obtain ⟨o9, p9, hC9⟩ := C9.out.cu; obtain ⟨r0, r1, r2, r3⟩ := hC9.cell; rw [hsl] at r0; obtain ⟨x0, x1, x2, x3, x4⟩ := C9.out.rb.cell; obtain ⟨v0, v1, v2, v3, v4⟩ := C9.out.rb.frozen; clear C7 hC7 hC8 hG8 C8 c6 g6)
          obtain ⟨y0, y1, y2, y3, y4⟩ := (C9.out.rb.all (.int .u64 0) (.slice none 0 0) (.string ⟨#[]⟩) (.int .i64 0) (.string ⟨#[]⟩)).cell
          refine bodyPost_ret (v := .tuple #[cmt 0 none 0 0 ⟨#[]⟩ 0 ⟨#[]⟩, .bool false]) (by simp [results, Tryz.results57, go_sem, y0, y1, y2, y3, y4]) rfl ⟨?_, below5 C9.out.bel (Nat.le_refl _) _ _ _ _ _⟩
          rw [hdn]
          rfl
    | succ k =>
      have j1 : (0 : Int) < ((k + 1 : Nat) : Int) := by omega
      have j2 : ((k + 1 : Nat) : Int) - 1 = (k : Int) := by omega
      cases f with
      | true =>
        have HRS : Hid (RES = (acc, s, true)) := (by rw [H.out.2.1]; simp [parsC] : RES = (acc, s, true))
        have hA := text_c wr (w.heap.size + 1) bk o p s true hC
        obtain ⟨⟨av, s4, f4⟩, hAA⟩ : ∃ y, y = textC s true := ⟨_, rfl⟩
        rw [← hAA] at hA
        simp only at hA
        obtain ⟨⟨dv, s5, f5⟩, hDD⟩ : ∃ y, y = wordC s4 f4 := ⟨_, rfl⟩
        obtain ⟨⟨xv, s6, f6⟩, hXX⟩ : ∃ y, y = textC s5 f5 := ⟨_, rfl⟩
        have hcc : comC0 t = ((tv, acc, av, wrap64 dv, xv), s6, f6) := by rw [HFIN.out, HRS.out]; simp only; rw [← hAA]; simp only; rw [← hDD]; simp only; rw [← hXX]
        have hdd := HD.out
        rw [hcc] at hdd
        simp only at hdd
        have HDX : Hid (D = if f6 = true ∨ s6 ≠ [] ∨ comErr tv acc av xv ≠ 0 then none else some (tv, acc, av, wrap64 dv, xv)) := hdd
        have HW4 : Hid (∀ W o p, Cu W (w.heap.size + 1) bk o p s4 f4 → Calls Tryz.prog 91 #[.pointer (some ⟨w.heap.size + 1, 0, none⟩)] W fun e w' => e = .returned (.int .u64 dv) ∧ (∃ off' cp', Cu w' (w.heap.size + 1) bk off' cp' s5 f5) ∧ W.grownBy w' (some (w.heap.size + 1))) := fun W o p h => by have := word_c W (w.heap.size + 1) bk o p s4 f4 h; rw [← hDD] at this; exact this
        have HX5 : Hid (∀ W o p, Cu W (w.heap.size + 1) bk o p s5 f5 → Calls Tryz.prog 89 #[.pointer (some ⟨w.heap.size + 1, 0, none⟩)] W fun e w' => e = .returned (.string xv) ∧ (∃ off' cp', Cu w' (w.heap.size + 1) bk off' cp' s6 f6) ∧ W.grownBy w' (some (w.heap.size + 1))) := fun W o p h => by have := text_c W (w.heap.size + 1) bk o p s5 f5 h; rw [← hXX] at this; exact this
        have HSZ : Hid (av.size ≤ 40000 ∧ xv.size ≤ 40000) := ⟨by have := textC_size s true; rw [← hAA] at this; exact this, by have := textC_size s5 f5; rw [← hXX] at this; exact this⟩
        have C1 : Hid (CK w (w.heap.size + 1) bk w1.heap.size s true tv acc ad m cp ⟨#[]⟩ 0 ⟨#[]⟩ wr) := H.out.1
        clear hAA hDD hXX hcc hdd H hC HFIN HRS HD
        by_cases hf6 : f6 = true
        · subst hf6
          have hdn : D = none := by rw [HDX.out, if_pos (.inl rfl)]
          clear HDX
          go_wp2_with first
            | (go_at_call 89; refine hA.mono ?_; clear hA; rintro e w4 ⟨rfl, hC4, hG4⟩; have C4 : Hid (CK w (w.heap.size + 1) bk w1.heap.size s4 f4 tv acc ad m cp ⟨#[]⟩ 0 ⟨#[]⟩ w4) := C1.out.grown hG4 hC4; have c4 := C4.out.box.cell.2.2.1; have g4 := C4.out.box.frozen.2.2.1; have C5 : Hid (CK w (w.heap.size + 1) bk w1.heap.size s4 f4 tv acc ad m cp av 0 ⟨#[]⟩ (w4.setCell ⟨w1.heap.size, 2, none⟩ (.string av))) := C4.out.set 2 _ ((box_set C4.out.box).2.2.1 _); obtain ⟨o5, p5, hC5⟩ := C5.out.cu; clear C1 hC4 hG4 C4)
            | (go_at_call 91; refine (HW4.out _ _ _ hC5).mono ?_; clear HW4; rintro e w5 ⟨rfl, hC6, hG6⟩; have C6 : Hid (CK w (w.heap.size + 1) bk w1.heap.size s5 f5 tv acc ad m cp av 0 ⟨#[]⟩ w5) := C5.out.grown hG6 hC6; have c6 := C6.out.box.cell.2.2.2.1; have g6 := C6.out.box.frozen.2.2.2.1; have C7 : Hid (CK w (w.heap.size + 1) bk w1.heap.size s5 f5 tv acc ad m cp av (wrap64 dv) ⟨#[]⟩ (w5.setCell ⟨w1.heap.size, 3, none⟩ (.int .i64 (wrap64 dv)))) := C6.out.set 3 _ ((box_set C6.out.box).2.2.2.1 _); obtain ⟨o7, p7, hC7⟩ := C7.out.cu; clear C5 hC5 hC6 hG6 C6 c4 g4)
            | (go_at_call 89; refine (HX5.out _ _ _ hC7).mono ?_; clear HX5; rintro e w6 ⟨rfl, hC8, hG8⟩; have C8 : Hid (CK w (w.heap.size + 1) bk w1.heap.size s6 true tv acc ad m cp av (wrap64 dv) ⟨#[]⟩ w6) := C7.out.grown hG8 hC8; have c8 := C8.out.box.cell.2.2.2.2; have g8 := C8.out.box.frozen.2.2.2.2; have C9 : Hid (CK w (w.heap.size + 1) bk w1.heap.size s6 true tv acc ad m cp av (wrap64 dv) xv (w6.setCell ⟨w1.heap.size, 4, none⟩ (.string xv))) := C8.out.set 4 _ ((box_set C8.out.box).2.2.2.2 _); obtain ⟨o9, p9, hC9⟩ := C9.out.cu; obtain ⟨r0, r1, r2, r3⟩ := hC9.cell; obtain ⟨z0, z1, z2, z3, z4⟩ := C9.out.box.cell; obtain ⟨x0, x1, x2, x3, x4⟩ := C9.out.rb.cell; obtain ⟨v0, v1, v2, v3, v4⟩ := C9.out.rb.frozen; clear C7 hC7 hC8 hG8 C8 c6 g6)
          obtain ⟨y0, y1, y2, y3, y4⟩ := (C9.out.rb.all (.int .u64 0) (.slice none 0 0) (.string ⟨#[]⟩) (.int .i64 0) (.string ⟨#[]⟩)).cell
          refine bodyPost_ret (v := .tuple #[cmt 0 none 0 0 ⟨#[]⟩ 0 ⟨#[]⟩, .bool false]) (by simp [results, Tryz.results57, go_sem, y0, y1, y2, y3, y4]) rfl ⟨?_, below5 C9.out.bel (Nat.le_refl _) _ _ _ _ _⟩
          rw [hdn]
          rfl
        · have hf7 : f6 = false := by cases f6 with | true => exact absurd rfl hf6 | false => rfl
          subst hf7
          by_cases hs6 : s6 = []
          · subst hs6
            have HCK : Hid (∀ W, CK w (w.heap.size + 1) bk w1.heap.size [] false tv acc ad m cp av (wrap64 dv) xv W → Calls Tryz.prog 68 #[cmt tv ad m cp av (wrap64 dv) xv] W fun e w' => e = .returned (.int .i64 (comErr tv acc av xv)) ∧ Below W.heap.size W w') := fun W h => refCheckCom_any tv ad m cp acc av (wrap64 dv) xv W (ck_com h HT.out HPB.out HSZ.out.1 HSZ.out.2 (by omega))
            obtain ⟨E, hE⟩ : ∃ E, E = comErr tv acc av xv := ⟨_, rfl⟩
            rw [← hE] at HCK HDX
            have hlen : acc.length = m := by have := C1.out.row.1; rw [List.length_map] at this; omega
            have HLN : Hid (acc.length = m) := hlen
            clear hE hlen
            by_cases hE0 : E = 0
            · subst hE0
              have hdn : D = some (tv, acc, av, wrap64 dv, xv) := by rw [HDX.out, if_neg (by simp)]
              clear HDX
              go_wp2_with first
                | (go_at_call 89; refine hA.mono ?_; clear hA; rintro e w4 ⟨rfl, hC4, hG4⟩; have C4 : Hid (CK w (w.heap.size + 1) bk w1.heap.size s4 f4 tv acc ad m cp ⟨#[]⟩ 0 ⟨#[]⟩ w4) := C1.out.grown hG4 hC4; have c4 := C4.out.box.cell.2.2.1; have g4 := C4.out.box.frozen.2.2.1; have C5 : Hid (CK w (w.heap.size + 1) bk w1.heap.size s4 f4 tv acc ad m cp av 0 ⟨#[]⟩ (w4.setCell ⟨w1.heap.size, 2, none⟩ (.string av))) := C4.out.set 2 _ ((box_set C4.out.box).2.2.1 _); obtain ⟨o5, p5, hC5⟩ := C5.out.cu; clear C1 hC4 hG4 C4)
                | (go_at_call 91; refine (HW4.out _ _ _ hC5).mono ?_; clear HW4; rintro e w5 ⟨rfl, hC6, hG6⟩; have C6 : Hid (CK w (w.heap.size + 1) bk w1.heap.size s5 f5 tv acc ad m cp av 0 ⟨#[]⟩ w5) := C5.out.grown hG6 hC6; have c6 := C6.out.box.cell.2.2.2.1; have g6 := C6.out.box.frozen.2.2.2.1; have C7 : Hid (CK w (w.heap.size + 1) bk w1.heap.size s5 f5 tv acc ad m cp av (wrap64 dv) ⟨#[]⟩ (w5.setCell ⟨w1.heap.size, 3, none⟩ (.int .i64 (wrap64 dv)))) := C6.out.set 3 _ ((box_set C6.out.box).2.2.2.1 _); obtain ⟨o7, p7, hC7⟩ := C7.out.cu; clear C5 hC5 hC6 hG6 C6 c4 g4)
                | (go_at_call 89; refine (HX5.out _ _ _ hC7).mono ?_; clear HX5; rintro e w6 ⟨rfl, hC8, hG8⟩; have C8 : Hid (CK w (w.heap.size + 1) bk w1.heap.size [] false tv acc ad m cp av (wrap64 dv) ⟨#[]⟩ w6) := C7.out.grown hG8 hC8; have c8 := C8.out.box.cell.2.2.2.2; have g8 := C8.out.box.frozen.2.2.2.2; have C9 : Hid (CK w (w.heap.size + 1) bk w1.heap.size [] false tv acc ad m cp av (wrap64 dv) xv (w6.setCell ⟨w1.heap.size, 4, none⟩ (.string xv))) := C8.out.set 4 _ ((box_set C8.out.box).2.2.2.2 _); obtain ⟨o9, p9, hC9⟩ := C9.out.cu; obtain ⟨r0, r1, r2, r3⟩ := hC9.cell; obtain ⟨z0, z1, z2, z3, z4⟩ := C9.out.box.cell; clear C7 hC7 hC8 hG8 C8 c6 g6)
                | (go_at_call 68; refine (HCK.out _ C9.out).mono ?_; clear HCK; rintro e w9 ⟨rfl, hB9⟩; have C10 : Hid (CK w (w.heap.size + 1) bk w1.heap.size [] false tv acc ad m cp av (wrap64 dv) xv w9) := C9.out.below hB9; obtain ⟨x0, x1, x2, x3, x4⟩ := C10.out.rb.cell; obtain ⟨v0, v1, v2, v3, v4⟩ := C10.out.rb.frozen; obtain ⟨y5, y6, y7, y8, y9⟩ := C10.out.box.cell; clear C9 hB9)
              obtain ⟨y0, y1, y2, y3, y4⟩ := (C10.out.rb.all (.int .u64 tv) (.slice ad m cp) (.string av) (.int .i64 (wrap64 dv)) (.string xv)).cell
              refine bodyPost_ret (v := .tuple #[cmt tv ad m cp av (wrap64 dv) xv, .bool true]) (by simp [results, Tryz.results57, go_sem, y0, y1, y2, y3, y4]) rfl ⟨?_, below5 C10.out.bel (Nat.le_refl _) _ _ _ _ _⟩
              rw [hdn]
              exact ck_some C10.out HLN.out _ _ _ _ _
            · have e1 : (E == 0) = false := by simp [hE0]
              have e2 : (E != 0) = true := by simp [hE0]
              have hdn : D = none := by rw [HDX.out, if_pos (.inr (.inr hE0))]
              clear HDX
              go_wp2_with first
                | (go_at_call 89; refine hA.mono ?_; clear hA; rintro e w4 ⟨rfl, hC4, hG4⟩; have C4 : Hid (CK w (w.heap.size + 1) bk w1.heap.size s4 f4 tv acc ad m cp ⟨#[]⟩ 0 ⟨#[]⟩ w4) := C1.out.grown hG4 hC4; have c4 := C4.out.box.cell.2.2.1; have g4 := C4.out.box.frozen.2.2.1; have C5 : Hid (CK w (w.heap.size + 1) bk w1.heap.size s4 f4 tv acc ad m cp av 0 ⟨#[]⟩ (w4.setCell ⟨w1.heap.size, 2, none⟩ (.string av))) := C4.out.set 2 _ ((box_set C4.out.box).2.2.1 _); obtain ⟨o5, p5, hC5⟩ := C5.out.cu; clear C1 hC4 hG4 C4)
                | (go_at_call 91; refine (HW4.out _ _ _ hC5).mono ?_; clear HW4; rintro e w5 ⟨rfl, hC6, hG6⟩; have C6 : Hid (CK w (w.heap.size + 1) bk w1.heap.size s5 f5 tv acc ad m cp av 0 ⟨#[]⟩ w5) := C5.out.grown hG6 hC6; have c6 := C6.out.box.cell.2.2.2.1; have g6 := C6.out.box.frozen.2.2.2.1; have C7 : Hid (CK w (w.heap.size + 1) bk w1.heap.size s5 f5 tv acc ad m cp av (wrap64 dv) ⟨#[]⟩ (w5.setCell ⟨w1.heap.size, 3, none⟩ (.int .i64 (wrap64 dv)))) := C6.out.set 3 _ ((box_set C6.out.box).2.2.2.1 _); obtain ⟨o7, p7, hC7⟩ := C7.out.cu; clear C5 hC5 hC6 hG6 C6 c4 g4)
                | (go_at_call 89; refine (HX5.out _ _ _ hC7).mono ?_; clear HX5; rintro e w6 ⟨rfl, hC8, hG8⟩; have C8 : Hid (CK w (w.heap.size + 1) bk w1.heap.size [] false tv acc ad m cp av (wrap64 dv) ⟨#[]⟩ w6) := C7.out.grown hG8 hC8; have c8 := C8.out.box.cell.2.2.2.2; have g8 := C8.out.box.frozen.2.2.2.2; have C9 : Hid (CK w (w.heap.size + 1) bk w1.heap.size [] false tv acc ad m cp av (wrap64 dv) xv (w6.setCell ⟨w1.heap.size, 4, none⟩ (.string xv))) := C8.out.set 4 _ ((box_set C8.out.box).2.2.2.2 _); obtain ⟨o9, p9, hC9⟩ := C9.out.cu; obtain ⟨r0, r1, r2, r3⟩ := hC9.cell; obtain ⟨z0, z1, z2, z3, z4⟩ := C9.out.box.cell; clear C7 hC7 hC8 hG8 C8 c6 g6)
                | (go_at_call 68; refine (HCK.out _ C9.out).mono ?_; clear HCK; rintro e w9 ⟨rfl, hB9⟩; have C10 : Hid (CK w (w.heap.size + 1) bk w1.heap.size [] false tv acc ad m cp av (wrap64 dv) xv w9) := C9.out.below hB9; obtain ⟨x0, x1, x2, x3, x4⟩ := C10.out.rb.cell; obtain ⟨v0, v1, v2, v3, v4⟩ := C10.out.rb.frozen; obtain ⟨y5, y6, y7, y8, y9⟩ := C10.out.box.cell; clear C9 hB9)
              obtain ⟨y0, y1, y2, y3, y4⟩ := (C10.out.rb.all (.int .u64 0) (.slice none 0 0) (.string ⟨#[]⟩) (.int .i64 0) (.string ⟨#[]⟩)).cell
              refine bodyPost_ret (v := .tuple #[cmt 0 none 0 0 ⟨#[]⟩ 0 ⟨#[]⟩, .bool false]) (by simp [results, Tryz.results57, go_sem, y0, y1, y2, y3, y4]) rfl ⟨?_, below5 C10.out.bel (Nat.le_refl _) _ _ _ _ _⟩
              rw [hdn]
              rfl
          · obtain ⟨sl, hsl⟩ : ∃ sl, s6.length = sl + 1 := by
              cases s6 with
              | nil => exact absurd rfl hs6
              | cons x t => exact ⟨t.length, rfl⟩
            have hdn : D = none := by rw [HDX.out, if_pos (.inr (.inl hs6))]
            clear HDX
            go_wp2_with first
              | (go_at_call 89; refine hA.mono ?_; clear hA; rintro e w4 ⟨rfl, hC4, hG4⟩; have C4 : Hid (CK w (w.heap.size + 1) bk w1.heap.size s4 f4 tv acc ad m cp ⟨#[]⟩ 0 ⟨#[]⟩ w4) := C1.out.grown hG4 hC4; have c4 := C4.out.box.cell.2.2.1; have g4 := C4.out.box.frozen.2.2.1; have C5 : Hid (CK w (w.heap.size + 1) bk w1.heap.size s4 f4 tv acc ad m cp av 0 ⟨#[]⟩ (w4.setCell ⟨w1.heap.size, 2, none⟩ (.string av))) := C4.out.set 2 _ ((box_set C4.out.box).2.2.1 _); obtain ⟨o5, p5, hC5⟩ := C5.out.cu; clear C1 hC4 hG4 C4)
              | (go_at_call 91; refine (HW4.out _ _ _ hC5).mono ?_; clear HW4; rintro e w5 ⟨rfl, hC6, hG6⟩; have C6 : Hid (CK w (w.heap.size + 1) bk w1.heap.size s5 f5 tv acc ad m cp av 0 ⟨#[]⟩ w5) := C5.out.grown hG6 hC6; have c6 := C6.out.box.cell.2.2.2.1; have g6 := C6.out.box.frozen.2.2.2.1; have C7 : Hid (CK w (w.heap.size + 1) bk w1.heap.size s5 f5 tv acc ad m cp av (wrap64 dv) ⟨#[]⟩ (w5.setCell ⟨w1.heap.size, 3, none⟩ (.int .i64 (wrap64 dv)))) := C6.out.set 3 _ ((box_set C6.out.box).2.2.2.1 _); obtain ⟨o7, p7, hC7⟩ := C7.out.cu; clear C5 hC5 hC6 hG6 C6 c4 g4)
              | (go_at_call 89; refine (HX5.out _ _ _ hC7).mono ?_; clear HX5; rintro e w6 ⟨rfl, hC8, hG8⟩; have C8 : Hid (CK w (w.heap.size + 1) bk w1.heap.size s6 false tv acc ad m cp av (wrap64 dv) ⟨#[]⟩ w6) := C7.out.grown hG8 hC8; have c8 := C8.out.box.cell.2.2.2.2; have g8 := C8.out.box.frozen.2.2.2.2; have C9 : Hid (CK w (w.heap.size + 1) bk w1.heap.size s6 false tv acc ad m cp av (wrap64 dv) xv (w6.setCell ⟨w1.heap.size, 4, none⟩ (.string xv))) := C8.out.set 4 _ ((box_set C8.out.box).2.2.2.2 _); obtain ⟨o9, p9, hC9⟩ := C9.out.cu; obtain ⟨r0, r1, r2, r3⟩ := hC9.cell; rw [hsl] at r0; obtain ⟨x0, x1, x2, x3, x4⟩ := C9.out.rb.cell; obtain ⟨v0, v1, v2, v3, v4⟩ := C9.out.rb.frozen; clear C7 hC7 hC8 hG8 C8 c6 g6)
            obtain ⟨y0, y1, y2, y3, y4⟩ := (C9.out.rb.all (.int .u64 0) (.slice none 0 0) (.string ⟨#[]⟩) (.int .i64 0) (.string ⟨#[]⟩)).cell
            refine bodyPost_ret (v := .tuple #[cmt 0 none 0 0 ⟨#[]⟩ 0 ⟨#[]⟩, .bool false]) (by simp [results, Tryz.results57, go_sem, y0, y1, y2, y3, y4]) rfl ⟨?_, below5 C9.out.bel (Nat.le_refl _) _ _ _ _ _⟩
            rw [hdn]
            rfl
      | false =>
        have hrs : RES = parsC k (wordC s false).2.1 (wordC s false).2.2 (acc ++ [(wordC s false).1]) := by rw [H.out.2.1]; simp [parsC]
        have hxf := wordC_fits s false
        have C4 : Hid (CK w (w.heap.size + 1) bk w1.heap.size s false tv acc ad m cp ⟨#[]⟩ 0 ⟨#[]⟩ wr) := H.out.1
        obtain ⟨z0, z1, z2, z3, z4⟩ := C4.out.box.cell
        obtain ⟨od, pd, hCd⟩ := C4.out.drew.cu
        obtain ⟨⟨xv, s', f'⟩, hx⟩ : ∃ y, y = wordC s false := ⟨_, rfl⟩
        rw [← hx] at hrs hxf
        simp only at hrs hxf
        have HFF : Hid (RES = parsC k s' f' (acc ++ [xv]) ∧ ∀ x ∈ acc ++ [xv], 0 ≤ x ∧ x < 18446744073709551616) := ⟨hrs, fun y hy => by
          rcases List.mem_append.1 hy with h | h
          · exact HPB.out y h
          · simp at h; subst h; exact hxf⟩
        have HSW : Hid (∀ {ops : Array Oper} {o : Oper} {a : Act} {K : Act → World → Prop} {Q : Exit → Act → World → Prop} {E : Prop} (W : World) (o' p' : Nat) (_ : Cu W (w.heap.size + 1) bk o' p' s false) (_ : o.guard = none) (x : Nat) (_ : o.op = .call { callee := .value (.func 91), args := #[.tmp x], argTypes := #[143] }) (_ : a.tmps[x]?.getD undef = .pointer (some ⟨w.heap.size + 1, 0, none⟩)) (_ : ∀ w', (∃ o p, Cu w' (w.heap.size + 1) bk o p s' f') → W.grownBy w' (some (w.heap.size + 1)) → K (a.put o.dst (.int .u64 xv)) w'), if Region.wanted o (yielded ops a.tmps) = true then Oper.wp Tryz.prog o a W K Q else E) := fun W o' p' hR hgd x ho hx' hK => step_wordC W (w.heap.size + 1) bk o' p' s false hR hgd x ho hx' (by rw [← hx]; exact hK)
        clear hx hrs hxf H hC HD HFIN
        go_wp2_with fail
        go_region_law (first
          | (refine HSW.out _ _ _ hCd (by rfl) _ (by rfl) (by rfl) ?_; intro w4 hC4 hG4; have C5 : Hid (CK w (w.heap.size + 1) bk w1.heap.size s' f' tv acc ad m cp ⟨#[]⟩ 0 ⟨#[]⟩ w4) := C4.out.drew.grown hG4 hC4; have y1 := C5.out.box.cell.2.1; have C6 : Hid (CK w (w.heap.size + 1) bk w1.heap.size s' f' tv acc ad m cp ⟨#[]⟩ 0 ⟨#[]⟩ (w4.alloc (.cells #[.int .u64 xv] 24))) := C5.out.alloc _; have y2 := C6.out.box.cell.2.1; clear hC4 hG4)
          | (refine step_appI' _ (w1.heap.size + 1) C6.out.low (by rfl) _ _ (by rfl) (.slice ad m cp) m acc (by rfl) C6.out.row ⟨w4.heap.size, 0, none⟩ 1 1 [xv] (by rfl) (ids_lit w4 xv) (by omega) ?_; intro v5 w5 ho5 hg5; obtain ⟨ad5, c5, hv5, _⟩ := row_shape ho5; subst hv5; have bx5 := C6.out.boxed hg5; have cb5 := bx5.cell.2.1; have fb5 := bx5.frozen.2.1; have C7 : Hid (CK w (w.heap.size + 1) bk w1.heap.size s' f' tv (acc ++ [xv]) ad5 (m + 1) c5 ⟨#[]⟩ 0 ⟨#[]⟩ (w5.setCell ⟨w1.heap.size, 1, none⟩ (.slice ad5 (m + 1) c5))) := C6.out.push ho5 hg5; clear ho5 hg5 bx5))
        all_goals
          go_wp2_with fail
          go_roundw
          case rel => exact ⟨k, s', f', acc ++ [xv], ad5, m + 1, c5, by omega, by simp, C7.out, HFF.out.1, HFF.out.2⟩
          case measure => simp [intOf]
end Go.Proofs.YthalpnpnbclipaaGreat
