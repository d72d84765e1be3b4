/- The walk of the law OctetBack's own reading: numbers and texts that were written are read as the same. -/
import Derived.Test.YtkfmihbbmafolaaBackPlain
import Derived.Test.YtkfmihbbmafolaaTold
import Derived.Test.YtkfmihbbmafolaaPut
import Derived.Test.YtkfmihbbmafolaaWakes
namespace Go.Proofs.Ytkfmihbbmafolaa
open Go.RowKit

def encN (ns : List Nat) : List UInt8 := ns.flatMap fun x => short x ++ wide x
def encT (ts : List ByteArray) : List UInt8 := ts.flatMap fun s => short s.size ++ s.data.toList

/-- the numbers, the texts that came in -/
structure Nums (w : World) (a : Option Addr) (n : Nat) (ns : List Nat) : Prop where
  len : ns.length = n
  cells : 0 < n → ∃ b off, a = some ⟨b, off, none⟩ ∧ ∀ i, i < n → w.cell? ⟨b, off + i, none⟩ = some (.int .u64 ((ns.getD i 0 : Nat) : Int))
  fits : ∀ x ∈ ns, x < 18446744073709551616
structure Texts (w : World) (a : Option Addr) (n : Nat) (ts : List ByteArray) : Prop where
  len : ts.length = n
  cells : 0 < n → ∃ b off, a = some ⟨b, off, none⟩ ∧ ∀ i, i < n → w.cell? ⟨b, off + i, none⟩ = some (.string (ts.getD i ByteArray.empty))

theorem Nums.low {w w' : World} {a : Option Addr} {n : Nat} {ns : List Nat} (h : Nums w a n ns) (hB : Below w.heap.size w w') : Nums w' a n ns :=
  ⟨h.len, fun h0 => by
    obtain ⟨b, off, rfl, hc⟩ := h.cells h0
    exact ⟨b, off, rfl, fun i hi => by rw [hB.cell (World.block_lt_of_cell? w _ (hc i hi))]; exact hc i hi⟩, h.fits⟩
theorem Texts.low {w w' : World} {a : Option Addr} {n : Nat} {ts : List ByteArray} (h : Texts w a n ts) (hB : Below w.heap.size w w') : Texts w' a n ts :=
  ⟨h.len, fun h0 => by
    obtain ⟨b, off, rfl, hc⟩ := h.cells h0
    exact ⟨b, off, rfl, fun i hi => by rw [hB.cell (World.block_lt_of_cell? w _ (hc i hi))]; exact hc i hi⟩⟩

theorem drop_getD {α : Type} (l : List α) (k : Nat) (d : α) (h : k < l.length) : l.drop k = l.getD k d :: l.drop (k + 1) := by
  rw [List.drop_eq_getElem_cons h]
  simp [h]
theorem take_getD {α : Type} (l : List α) (k : Nat) (d : α) (h : k < l.length) : l.take (k + 1) = l.take k ++ [l.getD k d] := by
  rw [List.take_succ_eq_append_getElem h]
  simp [h]
theorem getD_mem {α : Type} (l : List α) (k : Nat) (d : α) (h : k < l.length) : l.getD k d ∈ l := by
  simp [h]

theorem string_eta (s : ByteArray) : (⟨s.data.toList.toArray⟩ : ByteArray) = s := by cases s; simp

set_option maxHeartbeats 1000000 in
theorem back_any (a a1 a2 : Option Addr) (m c n1 c1 n2 c2 : Nat) (ns : List Nat) (ts : List ByteArray) (w : World) (hb : Bytes w a m (encN ns ++ encT ts)) (hm : m ≤ 281474976710656)
    (hn : Nums w a1 n1 ns) (ht : Texts w a2 n2 ts) (hn1 : n1 ≤ 9007199254740992) (hn2 : n2 ≤ 9007199254740992) (hts : ∀ s ∈ ts, s.size ≤ 9007199254740992) :
    Calls Try.prog 36 #[.slice a m c, .slice a1 n1 c1, .slice a2 n2 c2] w fun e w' => e = .returned (.bool true) ∧ Below w.heap.size w w' := by
  have Hn : Hid (Nums w a1 n1 ns) := hn
  have Ht : Hid (Texts w a2 n2 ts) := ht
  have Hts : Hid (∀ s ∈ ts, s.size ≤ 9007199254740992) := hts
  clear hn ht hts
  go_enter Try.func36, Try.ntmps36
  go_wp2_with fail
  refine (read_any a m c (encN ns ++ encT ts) w hb hm).mono ?_
  rintro e w1 ⟨r, g, rfl, hr, hg, hrd, hg1⟩
  have B1 : Below w.heap.size w w1 := (Below.refl _ _).grown hg1 (Nat.le_refl _) (by simp)
  generalize hL : encN ns ++ encT ts = L at *
  have HL : Hid (encN ns ++ encT ts = L) := hL
  clear hL hb hg hg1
  go_wp2_with fail
  go_loopw [18] (fun i wr => ∃ k p : Nat, k ≤ n1 ∧ i = .int .i64 k ∧ Hid (Rd wr r g p 0 L) ∧ Hid (L.drop p = encN (ns.drop k) ++ encT ts) ∧ Below w.heap.size w wr) (fun i _ => n1 - (intOf i).toNat)
  case atStart => exact ⟨0, 0, Nat.zero_le _, rfl, hrd, by show _ = _; rw [HL.out.symm]; rfl, B1⟩
  case round =>
    clear hrd B1
    obtain ⟨k, p, hk, rfl, HR, HD, hB⟩ := hrel
    by_cases hlt : k < n1
    · obtain ⟨nb, noff, rfl, hcell⟩ := Hn.out.cells (by omega)
      have hck := hcell k hlt
      rw [← hB.cell (World.block_lt_of_cell? w _ hck)] at hck
      have hkl : k < ns.length := by have := Hn.out.len; omega
      have hxf := Hn.out.fits _ (getD_mem ns k 0 hkl)
      have hdr := drop_getD ns k 0 hkl
      generalize ns.getD k 0 = x at *
      have HD1 : Hid (L.drop p = short x ++ (wide x ++ (encN (ns.drop (k + 1)) ++ encT ts))) := by
        have := HD.out
        rw [hdr] at this
        show _ = _
        rw [this]
        simp [encN]
      clear hcell hdr
      go_wp2_with fail
      refine (uint_u _ r g p 0 0 L HR.out).mono ?_
      rw [HD1.out, outU_ok x hxf 0 _]
      rintro e w2 ⟨rfl, hpost2⟩
      obtain ⟨p2, hR2, hd2, hg2⟩ := hpost2
      have HR2 : Hid (Rd w2 r g p2 0 L) := hR2
      have HD2 : Hid (L.drop p2 = wide x ++ (encN (ns.drop (k + 1)) ++ encT ts)) := hd2
      have hB2 : Below w.heap.size w w2 := hB.grown hg2 hB.size (by intro j hj; cases hj; exact hr)
      clear hR2 hd2 hg2 hB
      go_wp2_with fail
      refine (word_u _ r g p2 0 0 L HR2.out).mono ?_
      rw [HD2.out, outW_ok x hxf 0 _]
      rintro e w3 ⟨rfl, hpost3⟩
      obtain ⟨p3, hR3, hd3, hg3⟩ := hpost3
      have HR3 : Hid (Rd w3 r g p3 0 L) := hR3
      have HD3 : Hid (L.drop p3 = encN (ns.drop (k + 1)) ++ encT ts) := hd3
      have hB3 : Below w.heap.size w w3 := hB2.grown hg3 hB2.size (by intro j hj; cases hj; exact hr)
      clear hR3 hd3 hg3 hB2
      go_wp2
      go_roundw
      case rel => exact ⟨k + 1, p3, by omega, by go_num, HR3, HD3, hB3⟩
      case measure => simp [intOf]; omega
    · have HD0 : Hid (L.drop p = encT (ts.drop 0)) := by
        have := HD.out
        rw [show ns.drop k = [] from List.drop_eq_nil_of_le (by have := Hn.out.len; omega)] at this
        show _ = _
        rw [this]
        rfl
      go_wp2_with fail
      go_loopw [35] (fun i wr => ∃ k p : Nat, k ≤ n2 ∧ i = .int .i64 k ∧ Hid (Rd wr r g p 0 L) ∧ Hid (L.drop p = encT (ts.drop k)) ∧ Below w.heap.size w wr) (fun i _ => n2 - (intOf i).toNat)
      case atStart => exact ⟨0, p, Nat.zero_le _, rfl, HR, HD0, hB⟩
      case round =>
        clear HR HD HD0 hB
        obtain ⟨k2, p2, hk2, rfl, HR, HD, hB⟩ := hrel
        by_cases hlt2 : k2 < n2
        · obtain ⟨tb, toff, rfl, hcell⟩ := Ht.out.cells (by omega)
          have hck := hcell k2 hlt2
          rw [← hB.cell (World.block_lt_of_cell? w _ hck)] at hck
          have hkl : k2 < ts.length := by have := Ht.out.len; omega
          have hsz := Hts.out _ (getD_mem ts k2 ByteArray.empty hkl)
          have hdr := drop_getD ts k2 ByteArray.empty hkl
          generalize ts.getD k2 ByteArray.empty = s at *
          have hsl : s.data.toList.length = s.size := by simp
          have HD1 : Hid (L.drop p2 = short s.size ++ (s.data.toList ++ encT (ts.drop (k2 + 1)))) := by
            have := HD.out
            rw [hdr] at this
            show _ = _
            rw [this]
            simp [encT]
          have HO : Hid (outOf 3 (s.size : Int) (short s.size ++ (s.data.toList ++ encT (ts.drop (k2 + 1)))) 0 = ⟨encT (ts.drop (k2 + 1)), 0, 0, s.data.toList⟩) := by
            have := outT_ok s.data.toList (encT (ts.drop (k2 + 1))) (by rw [hsl]; omega)
            rw [hsl] at this
            exact this
          clear hcell hdr hsl
          go_wp2_with fail
          refine (text_u _ r g p2 0 s.size L HR.out (by omega)).mono ?_
          rw [HD1.out, HO.out]
          simp only [string_eta]
          rintro e w3 ⟨rfl, hpost3⟩
          obtain ⟨p3, hR3, hd3, hg3⟩ := hpost3
          have HR3 : Hid (Rd w3 r g p3 0 L) := hR3
          have HD3 : Hid (L.drop p3 = encT (ts.drop (k2 + 1))) := hd3
          have hB3 : Below w.heap.size w w3 := hB.grown hg3 hB.size (by intro j hj; cases hj; exact hr)
          clear hR3 hd3 hg3 hB
          go_wp2
          go_roundw
          case rel => exact ⟨k2 + 1, p3, by omega, by go_num, HR3, HD3, hB3⟩
          case measure => simp [intOf]; omega
        · have HE : Hid (L.length = p2 + 0) := by
            have := HD.out
            rw [show ts.drop k2 = [] from List.drop_eq_nil_of_le (by have := Ht.out.len; omega)] at this
            have h2 : (L.drop p2).length = 0 := by rw [this]; rfl
            rw [List.length_drop] at h2
            have := HR.out.hp
            show _ = _
            omega
          go_wp2_with fail
          refine (end_ok _ r g p2 0 L HR.out HE.out).mono ?_
          rintro e w3 ⟨rfl, j, hw3⟩
          have HR3 : Hid (Rd w3 r g p2 0 L) := by show Rd _ _ _ _ _ _; rw [hw3]; exact HR.out.drewN j
          have hB3 : Below w.heap.size w w3 := by rw [hw3]; exact hB.grown (grownBy_drewN _ _ none) hB.size (by simp)
          clear hw3 hB
          go_wp2_with fail
          refine (left_any _ r g p2 0 0 L HR3.out HE.out).mono ?_
          rintro e w4 ⟨rfl, j4, hw4⟩
          have hB4 : Below w.heap.size w w4 := by rw [hw4]; exact hB3.grown (grownBy_drewN _ _ none) hB3.size (by simp)
          clear hw4 hB3
          go_wp2
          go_ret
          exact ⟨rfl, hB4⟩

end Go.Proofs.Ytkfmihbbmafolaa
