/- A commit's bytes, as the program puts them together. -/
import Derived.Test.YtdibdcbihleflaaOCommit
import Derived.Test.YtdibdcbihleflaaOPut
namespace Go.Proofs.Ytdibdcbihleflaa
open Go.RowKit

attribute [local go_sem] Oper.semAt_some

/-- a date as a word -/
def du (d : Int) : Nat := (IntKind.u64.wrap d).toNat
theorem du_eq (d : Int) : IntKind.u64.wrap d = (du d : Int) ∧ du d < 18446744073709551616 := by
  have h : 0 ≤ IntKind.u64.wrap d ∧ IntKind.u64.wrap d ≤ 18446744073709551615 := by
    simp [IntKind.wrap, IntKind.bits, IntKind.signed]
    omega
  unfold du
  omega
def parsB (l : List Int) : List UInt8 := (l.map fun x => wide x.toNat).flatten
theorem parsB_take (l : List Int) (k : Nat) (x : Int) (h : l[k]? = some x) : parsB (l.take (k + 1)) = parsB (l.take k) ++ wide x.toNat := by
  unfold parsB
  rw [List.take_add_one, h]
  simp
theorem parsB_len (l : List Int) (k : Nat) (hk : k ≤ l.length) : (parsB (l.take k)).length = k * 8 := by
  induction k with
  | zero => simp [parsB]
  | succ k ih =>
    obtain ⟨x, hx⟩ : ∃ x, l[k]? = some x := ⟨_, List.getElem?_eq_getElem (by omega)⟩
    rw [parsB_take l k x hx, List.length_append, ih (by omega), wide_len]
    omega
/-- the bytes of a commit -/
def comB (t : Int) (ps : List Int) (au : ByteArray) (d : Int) (tx : ByteArray) : List UInt8 :=
  [99] ++ wide t.toNat ++ short ps.length ++ parsB ps ++ (short au.size ++ au.data.toList) ++ wide (du d) ++ (short tx.size ++ tx.data.toList)
theorem Keeps.box5 {B : Nat} {W W' : World} {g : Nat} {a b c d e : Value} (h : Keeps B W W') (hb : Box5 W g a b c d e) (hg : g ≠ B) : Box5 W' g a b c d e := h g _ _ hb (by decide) hg

set_option maxRecDepth 100000 in
set_option maxHeartbeats 8000000 in
theorem putCommit_any (w0 : World) (B : Nat) (t : Int) (pa : Option Addr) (pn pc : Nat) (ps : List Int) (au : ByteArray) (d : Int) (tx : ByteArray) (W : World) (h : Out w0 B [99] W) (hC : Com w0 t pa pn pc ps au d tx) (hn : pn ≤ 8) (ha : au.size ≤ 64) (hx : tx.size ≤ 1024) :
    Calls Try.prog 78 #[putV B, cmt t pa pn pc au d tx] W fun e W' => e = .returned (.tuple #[]) ∧ Out w0 B (comB t ps au d tx) W' ∧ Keeps B W W' := by
  have hll := hC.par.1
  have hsn := short_len pn
  have hsa := short_len au.size
  have hsx := short_len tx.size
  have hal : au.data.toList.length = au.size := by simp
  obtain ⟨v, hv, _⟩ := h.box
  have hBW := hv.lt
  clear hv
  obtain ⟨hdu, hdl⟩ := du_eq d
  obtain ⟨y, rfl⟩ := Int.eq_ofNat_of_zero_le hC.tree.1
  have hyl := hC.tree.2
  have hpl := parsB_len ps pn (by omega)
  have hpl' : (parsB ps).length = pn * 8 := by rw [← hpl, List.take_of_length_le (by omega)]
  have hwl := wide_len
  have HF : Hid (comB y ps au d tx = [99] ++ wide y ++ short pn ++ parsB ps ++ (short au.size ++ au.data.toList) ++ wide (du d) ++ (short tx.size ++ tx.data.toList)) := by
    show _ = _
    unfold comB
    rw [hll]
    rfl
  have HC : Hid (Com w0 y pa pn pc ps au d tx) := hC
  have b0 := Box5.new W (.int .u64 y) (.slice pa pn pc) (.string au) (.int .i64 d) (.string tx)
  have H0 : Hid (Keeps B W (W.alloc (.cells #[.int .u64 y, .slice pa pn pc, .string au, .int .i64 d, .string tx] 42))) := Keeps.of ((Below.refl _ _).alloc (Nat.le_refl _) _)
  have hO0 := h.alloc (.cells #[.int .u64 (y : Int), .slice pa pn pc, .string au, .int .i64 d, .string tx] 42)
  generalize du d = D at *
  clear hC hpl
  go_enter Try.func78, Try.ntmps78
  go_wp2_with first
    | (go_at_call 94; refine (word_any w0 B [99] y _ hO0 (by omega) (by simp)).mono ?_; rintro e w1 ⟨rfl, hO1, hK1⟩; have b1 := hK1.box5 b0 (by omega); obtain ⟨c0, c1, c2, c3, c4⟩ := b1.cell; have H1 : Hid (Keeps B W w1) := H0.out.trans hK1; clear hK1 H0 hO0 b0)
    | (go_at_call 91; refine (count_any w0 B _ pn _ hO1 (by omega) (by simp only [List.length_append, List.length_singleton, hwl]; omega)).mono ?_; rintro e w2 ⟨rfl, hO2, hK2⟩; have b2 := hK2.box5 b1 (by omega); obtain ⟨d0, d1, d2, d3, d4⟩ := b2.cell; have H2 : Hid (Out w0 B ([99] ++ wide y ++ short pn ++ parsB (ps.take 0)) w2 ∧ Keeps B W w2 ∧ Box5 w2 W.heap.size (.int .u64 y) (.slice pa pn pc) (.string au) (.int .i64 d) (.string tx)) := ⟨by simpa [parsB] using hO2, H1.out.trans hK2, b2⟩; clear hK2 H1 hO1 hO2 b1 c0 c1 c2 c3 c4 b2)
  go_loopw [18] (fun i wr => ∃ k : Nat, k ≤ pn ∧ i = .int .i64 (k : Int) ∧ Hid (Out w0 B ([99] ++ wide y ++ short pn ++ parsB (ps.take k)) wr ∧ Keeps B W wr ∧ Box5 wr W.heap.size (.int .u64 y) (.slice pa pn pc) (.string au) (.int .i64 d) (.string tx))) (fun i _ => pn - (intOf i).toNat)
  case atStart => exact ⟨0, Nat.zero_le _, rfl, H2.out⟩
  case round =>
    clear H2 d0 d1 d2 d3 d4
    obtain ⟨k, hk, rfl, H⟩ := hrel
    by_cases hlt : k < pn
    · obtain ⟨x, hx'⟩ : ∃ x, ps[k]? = some x := ⟨_, List.getElem?_eq_getElem (by omega)⟩
      obtain ⟨b1, o1, hpa, hc1⟩ := (HC.out.par.below H.out.1.bel).2 (by omega)
      subst hpa
      have q := hc1 k x hx'
      have hxr := HC.out.pars x (List.mem_of_getElem? hx')
      obtain ⟨z, rfl⟩ := Int.eq_ofNat_of_zero_le hxr.1
      have HT : Hid ([99] ++ wide y ++ short pn ++ parsB (ps.take (k + 1)) = [99] ++ wide y ++ short pn ++ parsB (ps.take k) ++ wide z) := by
        show _ = _
        rw [parsB_take ps k _ hx', ← List.append_assoc]
        rfl
      have hpk := parsB_len ps k (by omega)
      have i2 : (k : Int) < (pn : Int) := by omega
      have i3 : ¬ pn ≤ k := by omega
      clear hc1 hx'
      go_wp2_with (go_at_call 94; refine (word_any w0 B _ z _ H.out.1 (by omega) (by simp only [List.length_append, List.length_singleton, hwl]; omega)).mono ?_; rintro e x3 ⟨rfl, hO3, hK3⟩; have H3 : Hid (Out w0 B ([99] ++ wide y ++ short pn ++ parsB (ps.take (k + 1))) x3 ∧ Keeps B W x3 ∧ Box5 x3 W.heap.size (.int .u64 y) (.slice (some ⟨b1, o1, none⟩) pn pc) (.string au) (.int .i64 d) (.string tx)) := ⟨by rw [HT.out]; exact hO3, H.out.2.1.trans hK3, hK3.box5 H.out.2.2 (by omega)⟩; clear hO3 hK3)
      go_roundw
      case rel => exact ⟨k + 1, by omega, by simp, H3.out⟩
      case measure => simp [intOf]; omega
    · obtain rfl : k = pn := by omega
      have i2 : ¬ (k : Int) < (k : Int) := by omega
      have hO3 := H.out.1
      rw [List.take_of_length_le (by omega)] at hO3
      have b3 := H.out.2.2
      obtain ⟨c0, c1, c2, c3, c4⟩ := b3.cell
      have H3 : Hid (Keeps B W wr) := H.out.2.1
      clear H
      go_wp2_with first
        | (go_at_call 92; refine (text_any w0 B ([99] ++ wide y ++ short k ++ parsB ps) au _ hO3 (by omega) (by simp only [List.length_append, List.length_singleton, hwl, hpl']; omega)).mono ?_; rintro e x4 ⟨rfl, hO4, hK4⟩; have b4 := hK4.box5 b3 (by omega); obtain ⟨e0, e1, e2, e3, e4⟩ := b4.cell; have H4 : Hid (Keeps B W x4) := H3.out.trans hK4; clear hK4 hO3 H3 b3 c0 c1 c2 c3 c4)
        | (go_at_call 94; refine (word_any w0 B _ D _ hO4 hdl (by simp only [List.length_append, List.length_singleton, hwl, hpl', hal]; omega)).mono ?_; rintro e x5 ⟨rfl, hO5, hK5⟩; have b5 := hK5.box5 b4 (by omega); obtain ⟨f0, f1, f2, f3, f4⟩ := b5.cell; have H5 : Hid (Keeps B W x5) := H4.out.trans hK5; clear hK5 hO4 H4 b4 e0 e1 e2 e3 e4)
        | (go_at_call 92; refine (text_any w0 B _ tx _ hO5 (by omega) (by simp only [List.length_append, List.length_singleton, hwl, hpl', hal]; omega)).mono ?_; rintro e x6 ⟨rfl, hO6, hK6⟩)
      go_end0
      exact ⟨rfl, by rw [HF.out]; exact hO6, H5.out.trans hK6⟩
end Go.Proofs.Ytdibdcbihleflaa
