/- The walk of the law OctetBack. -/
import Derived.Test.YtkfmihbbmafolaaBackWalk
namespace Go.Proofs.Ytkfmihbbmafolaa
open Go.RowKit

/-- what is left of a shorter beginning: refused, or a strict beginning of what follows -/
def Sx (l : List UInt8) (er : Int) (suf : List UInt8) : Prop := er = 110 ∨ (er = 0 ∧ ∃ q, l = suf.take q ∧ q < suf.length)

theorem out_stuck (k m : Int) (l : List UInt8) : outOf k m l 110 = .no l 110 := by rw [outOf, if_pos (by decide)]

theorem stepU {l : List UInt8} {er m : Int} {x : Nat} {S : List UInt8} (hx : x < 18446744073709551616) (h : Sx l er (short x ++ S)) : Sx (outOf 1 m l er).rest (outOf 1 m l er).err S := by
  rcases h with rfl | ⟨rfl, q, rfl, hq⟩
  · rw [out_stuck]; exact .inl rfl
  · by_cases h1 : q < (short x).length
    · rw [List.take_append_of_le_length (by omega)]
      exact .inl (outU_cut x q hx m h1)
    · rw [List.length_append] at hq
      rw [List.take_append, List.take_of_length_le (by omega), outU_ok x hx m _]
      exact .inr ⟨rfl, q - (short x).length, rfl, by omega⟩
theorem stepW {l : List UInt8} {er m : Int} {x : Nat} {S : List UInt8} (hx : x < 18446744073709551616) (h : Sx l er (wide x ++ S)) : Sx (outOf 2 m l er).rest (outOf 2 m l er).err S := by
  have hl : (wide x).length = 8 := wideTo_len x 8
  rcases h with rfl | ⟨rfl, q, rfl, hq⟩
  · rw [out_stuck]; exact .inl rfl
  · by_cases h1 : q < 8
    · exact .inl (outW_cut _ m (by rw [List.length_take]; omega))
    · rw [List.length_append] at hq
      rw [List.take_append, List.take_of_length_le (by omega), outW_ok x hx m _]
      exact .inr ⟨rfl, q - (wide x).length, rfl, by omega⟩
theorem stepT {l : List UInt8} {er : Int} {s : ByteArray} {S : List UInt8} (hx : s.size < 18446744073709551616) (h : Sx l er (short s.size ++ (s.data.toList ++ S))) : Sx (outOf 3 (s.size : Int) l er).rest (outOf 3 (s.size : Int) l er).err S := by
  have hsl : s.data.toList.length = s.size := by simp
  rcases h with rfl | ⟨rfl, q, rfl, hq⟩
  · rw [out_stuck]; exact .inl rfl
  · by_cases h1 : q < (short s.size ++ s.data.toList).length
    · rw [← List.append_assoc, List.take_append_of_le_length (by omega)]
      refine .inl ?_
      have := outT_cut s.data.toList q (by rw [hsl]; exact hx) (by rw [hsl]; exact h1)
      rw [hsl] at this
      exact this
    · rw [← List.append_assoc, List.length_append] at hq
      rw [← List.append_assoc, List.take_append, List.take_of_length_le (by omega), List.append_assoc]
      have := outT_ok s.data.toList (S.take (q - (short s.size ++ s.data.toList).length)) (by rw [hsl]; exact hx)
      rw [hsl] at this
      rw [this]
      exact .inr ⟨rfl, _, rfl, by omega⟩

theorem encN_take (ns : List Nat) (k : Nat) (h : k < ns.length) : encN (ns.take (k + 1)) = (encN (ns.take k) ++ short (ns.getD k 0)) ++ wide (ns.getD k 0) := by
  rw [take_getD ns k 0 h]
  simp [encN]
theorem encN_le (ns : List Nat) (k : Nat) : (encN (ns.take k)).length ≤ (encN ns).length := by
  have : encN ns = encN (ns.take k) ++ encN (ns.drop k) := by
    unfold encN
    rw [← List.flatMap_append, List.take_append_drop]
  rw [this, List.length_append]
  omega
theorem encT_take (ts : List ByteArray) (k : Nat) (h : k < ts.length) : encT (ts.take (k + 1)) = encT (ts.take k) ++ (short (ts.getD k ByteArray.empty).size ++ (ts.getD k ByteArray.empty).data.toList) := by
  rw [take_getD ts k ByteArray.empty h]
  simp [encT]
theorem encT_le (ts : List ByteArray) (k : Nat) : (encT (ts.take k)).length ≤ (encT ts).length := by
  have : encT ts = encT (ts.take k) ++ encT (ts.drop k) := by
    unfold encT
    rw [← List.flatMap_append, List.take_append_drop]
  rw [this, List.length_append]
  omega

theorem own_cap {w : World} {B g n c : Nat} {xs : List Value} (h : w.ownsRow B 5 1 (.slice (some ⟨g, 0, none⟩) n c) n xs) : n ≤ c := by
  rcases h.2 with ⟨hv, _⟩ | ⟨_, _, _, hv, _, _, hnc, _⟩
  · cases hv
  · injection hv with _ _ h3
    rw [h3]; exact hnc
theorem below_of_grown' {w w' : World} (h : w.grownBy w' none) : Below w.heap.size w w' := ⟨h.os, h.tape, h.output, h.size, fun k hk => h.block k hk (by simp)⟩

theorem putUint_d (a : Option Addr) (n cap x : Nat) (l : List UInt8) (w : World) (hb : Bytes w a n l) (hn : n ≤ 281474976710640) (hx : x < 18446744073709551616) :
    Calls Try.prog 11 #[.slice a n cap, .int .u64 x] w fun e w' => ∃ ad m c, e = .returned (.slice ad m c) ∧ Bytes w' ad m (l ++ short x) ∧ m = n + (short x).length ∧ m ≤ c ∧ Below w.heap.size w w' :=
  (putUint_any a n cap x l w hb hn hx).mono fun _ _ ⟨_, _, h1, h2, h3⟩ => ⟨_, _, _, h1, (ownsRow_bytes h2).1, rfl, own_cap h2, below_of_grown' h3⟩
theorem putWord_d (a : Option Addr) (n cap x : Nat) (l : List UInt8) (w : World) (hb : Bytes w a n l) (hn : n ≤ 281474976710640) (hx : x < 18446744073709551616) :
    Calls Try.prog 12 #[.slice a n cap, .int .u64 x] w fun e w' => ∃ ad m c, e = .returned (.slice ad m c) ∧ Bytes w' ad m (l ++ wide x) ∧ m ≤ c ∧ Below w.heap.size w w' :=
  (putWord_any a n cap x l w hb hn hx).mono fun _ _ ⟨_, _, h1, h2, h3⟩ => ⟨_, _, _, h1, (ownsRow_bytes h2).1, own_cap h2, below_of_grown' h3⟩
theorem putText_d (a : Option Addr) (n cap : Nat) (s : ByteArray) (l : List UInt8) (w : World) (hb : Bytes w a n l) (hn : n + s.size ≤ 281474976710640) :
    Calls Try.prog 13 #[.slice a n cap, .string s] w fun e w' => ∃ ad m c, e = .returned (.slice ad m c) ∧ Bytes w' ad m (l ++ (short s.size ++ s.data.toList)) ∧ m ≤ c ∧ Below w.heap.size w w' :=
  (putText_any a n cap s l w hb hn).mono fun _ _ ⟨_, _, _, _, h1, h2, h3⟩ => ⟨_, _, _, h1, (ownsRow_bytes h2).1, own_cap h2, below_of_grown' h3⟩

theorem bytes_low {w w' : World} {a : Option Addr} {n : Nat} {l : List UInt8} (h : Bytes w a n l) (hB : Below w.heap.size w w') : Bytes w' a n l := by
  refine ⟨h.1, fun h0 => ?_⟩
  obtain ⟨b, off, rfl, hc⟩ := h.2 h0
  exact ⟨b, off, rfl, fun i hi => by rw [hB.cell (World.block_lt_of_cell? w _ (hc i hi))]; exact hc i hi⟩

/-- what was written so far -/
structure Wr (w : World) (ad : Option Addr) (m c : Nat) (l : List UInt8) : Prop where
  by_ : Bytes w ad m l
  cap : m ≤ c

set_option maxRecDepth 20000 in
set_option maxHeartbeats 2000000 in
theorem octetBack_walk (a1 a2 : Option Addr) (n1 c1 n2 c2 : Nat) (cut : Int) (ns : List Nat) (ts : List ByteArray) (w : World) (hn : Nums w a1 n1 ns) (ht : Texts w a2 n2 ts)
    (hn1 : n1 ≤ 9007199254740992) (hn2 : n2 ≤ 9007199254740992) (hts : ∀ s ∈ ts, s.size ≤ 9007199254740992) (htot : (encN ns).length + (encT ts).length ≤ 281474976710000) :
    Calls Try.prog 7 #[.slice a1 n1 c1, .slice a2 n2 c2, .int .i64 cut] w fun e w' => e = .returned (.bool true) ∧ Below w.heap.size w w' := by
  have Hn : Hid (Nums w a1 n1 ns) := hn
  have Ht : Hid (Texts w a2 n2 ts) := ht
  have Hts : Hid (∀ s ∈ ts, s.size ≤ 9007199254740992) := hts
  have Htot : Hid ((encN ns).length + (encT ts).length ≤ 281474976710000) := htot
  clear hn ht hts htot
  go_enter Try.func7, Try.ntmps7
  go_wp2_with fail
  refine (wakes_any _).mono ?_
  rintro e w1 ⟨rfl, B1⟩
  go_wp2_with fail
  go_loopw [7, 19] (fun v i wr => ∃ (k m c : Nat) (ad : Option Addr), k ≤ n1 ∧ i = .int .i64 k ∧ v = .slice ad m c ∧ Hid (Wr wr ad m c (encN (ns.take k))) ∧ Below w.heap.size w wr) (fun _ i _ => n1 - (intOf i).toNat)
  case atStart => exact ⟨0, 0, 0, none, Nat.zero_le _, rfl, rfl, ⟨⟨rfl, fun h => by omega⟩, Nat.le_refl _⟩, B1⟩
  case round =>
    clear B1
    obtain ⟨k, m, c, ad, hk, rfl, rfl, HW, hB⟩ := hrel
    by_cases hlt : k < n1
    · obtain ⟨nb, noff, rfl, hcell⟩ := Hn.out.cells (by omega)
      have hck := hcell k hlt
      rw [← hB.cell (World.block_lt_of_cell? w _ hck)] at hck
      have hkl : k < ns.length := by have := Hn.out.len; omega
      have hxf := Hn.out.fits _ (getD_mem ns k 0 hkl)
      have htk := encN_take ns k hkl
      have hmm := HW.out.by_.1
      have hle1 := encN_le ns (k + 1)
      rw [htk, List.length_append, List.length_append] at hle1
      have hm0 : m ≤ 281474976710000 := by have := Htot.out; omega
      have hm1 : m + (short (ns.getD k 0)).length ≤ 281474976710000 := by have := Htot.out; omega
      have Htk : Hid (encN (ns.take (k + 1)) = (encN (ns.take k) ++ short (ns.getD k 0)) ++ wide (ns.getD k 0)) := htk
      clear hle1 hmm htk hcell
      generalize ns.getD k 0 = x at *
      go_wp2_with fail
      refine (putUint_d ad m c x _ _ HW.out.by_ (by omega) hxf).mono ?_
      rintro e w2 ⟨ad2, m2, c2', rfl, hb2, hm2, hc2, B2⟩
      have Hm2 : Hid (m2 = m + (short x).length) := hm2
      have hB2 : Below w.heap.size w w2 := hB.trans (B2.mono hB.size)
      clear hm2 B2 hB
      go_wp2_with fail
      refine (putWord_d ad2 m2 c2' x _ _ hb2 (by have := Hm2.out; omega) hxf).mono ?_
      rintro e w3 ⟨ad3, m3, c3, rfl, hb3, hc3, B3⟩
      have hB3 : Below w.heap.size w w3 := hB2.trans (B3.mono hB2.size)
      clear hb2 B3 hB2
      rw [← Htk.out] at hb3
      have HW3 : Hid (Wr w3 ad3 m3 c3 (encN (ns.take (k + 1)))) := ⟨hb3, hc3⟩
      clear hb3 hc3
      go_wp2
      go_roundw
      case rel => exact ⟨k + 1, m3, c3, ad3, by omega, by go_num, rfl, HW3, hB3⟩
      case measure => simp [intOf]; omega
    · have HW0 : Hid (Wr wr ad m c (encN ns ++ encT (ts.take 0))) := by
        have := HW.out
        rw [List.take_of_length_le (by have := Hn.out.len; omega)] at this
        have e0 : encT (ts.take 0) = [] := rfl
        show Wr _ _ _ _ _
        rw [e0, List.append_nil]
        exact this
      clear HW
      go_wp2_with fail
      go_loopw [7, 31] (fun v i wr => ∃ (k m c : Nat) (ad : Option Addr), k ≤ n2 ∧ i = .int .i64 k ∧ v = .slice ad m c ∧ Hid (Wr wr ad m c (encN ns ++ encT (ts.take k))) ∧ Below w.heap.size w wr) (fun _ i _ => n2 - (intOf i).toNat)
      case atStart => exact ⟨0, m, c, ad, Nat.zero_le _, rfl, rfl, HW0, hB⟩
      case round =>
        clear HW0 hB
        obtain ⟨k2, m2, c2', ad2, hk2, rfl, rfl, HW, hB⟩ := hrel
        by_cases hlt2 : k2 < n2
        · obtain ⟨tb, toff, rfl, hcell⟩ := Ht.out.cells (by omega)
          have hck := hcell k2 hlt2
          rw [← hB.cell (World.block_lt_of_cell? w _ hck)] at hck
          have hkl : k2 < ts.length := by have := Ht.out.len; omega
          have htk := encT_take ts k2 hkl
          have hmm := HW.out.by_.1
          have hle1 := encT_le ts (k2 + 1)
          have hsl : (ts.getD k2 ByteArray.empty).data.toList.length = (ts.getD k2 ByteArray.empty).size := by simp
          rw [htk, List.length_append, List.length_append, hsl] at hle1
          rw [List.length_append] at hmm
          have hm0 : m2 + (ts.getD k2 ByteArray.empty).size ≤ 281474976710000 := by have := Htot.out; omega
          have Htk : Hid (encT (ts.take (k2 + 1)) = encT (ts.take k2) ++ (short (ts.getD k2 ByteArray.empty).size ++ (ts.getD k2 ByteArray.empty).data.toList)) := htk
          clear hle1 hmm htk hcell hsl
          generalize ts.getD k2 ByteArray.empty = s at *
          go_wp2_with fail
          refine (putText_d ad2 m2 c2' s _ _ HW.out.by_ (by omega)).mono ?_
          rintro e w3 ⟨ad3, m3, c3, rfl, hb3, hc3, B3⟩
          have hB3 : Below w.heap.size w w3 := hB.trans (B3.mono hB.size)
          rw [List.append_assoc, ← Htk.out] at hb3
          have HW3 : Hid (Wr w3 ad3 m3 c3 (encN ns ++ encT (ts.take (k2 + 1)))) := ⟨hb3, hc3⟩
          clear hb3 hc3 B3 hB
          go_wp2
          go_roundw
          case rel => exact ⟨k2 + 1, m3, c3, ad3, by omega, by go_num, rfl, HW3, hB3⟩
          case measure => simp [intOf]; omega
        · have HW0 : Hid (Wr wr ad2 m2 c2' (encN ns ++ encT ts)) := by
            have := HW.out
            rw [show ts.take k2 = ts from List.take_of_length_le (by have := Ht.out.len; omega)] at this
            exact this
          have hm0 : m2 ≤ 281474976710000 := by have := HW0.out.by_.1; rw [List.length_append] at this; have := Htot.out; omega
          clear HW
          go_wp2_with fail
          refine (wakes_any _).mono ?_
          rintro e w4 ⟨rfl, B4⟩
          have hB4 : Below w.heap.size w w4 := hB.trans (B4.mono hB.size)
          have hb4 : Bytes w4 ad2 m2 (encN ns ++ encT ts) := bytes_low HW0.out.by_ B4
          have hcap : m2 ≤ c2' := HW0.out.cap
          clear HW0 B4 hB
          go_wp2_with fail
          refine (back_any ad2 a1 a2 m2 c2' n1 c1 n2 c2 ns ts w4 hb4 (by omega) (Hn.out.low hB4) (Ht.out.low hB4) hn1 hn2 Hts.out).mono ?_
          rintro e w5 ⟨rfl, B5⟩
          have hB5 : Below w.heap.size w w5 := hB4.trans (B5.mono hB4.size)
          have hb5 := bytes_low hb4 B5
          clear hb4 B5 hB4
          by_cases hm2 : m2 = 0
          · have n0 : ((m2 : Int) == 0) = true := by simp; omega
            have Hm2 : Hid (m2 = 0) := hm2
            clear hm2
            go_wp2
            go_ret
            exact ⟨rfl, hB5⟩
          · have n0 : ((m2 : Int) == 0) = false := by simp; omega
            obtain ⟨bb, boff, rfl, _⟩ := hb5.2 (by omega)
            have hall : ∀ j, j < m2 → Bytes w5 (some ⟨bb, boff, none⟩) j ((encN ns ++ encT ts).take j) ∧ Sx ((encN ns ++ encT ts).take j) 0 (encN (ns.drop 0) ++ encT ts) := fun j hj => ⟨hb5.take j (by omega), .inr ⟨rfl, j, rfl, by have := hb5.1; simp only [List.drop_zero]; omega⟩⟩
            have Hall := (show Hid _ from hall)
            clear hall hb5
            obtain ⟨j, hj, hjn⟩ : ∃ j : Nat, j < m2 ∧ ((0 ≤ cut ∧ cut % (m2 : Int) = (j : Int)) ∨ (¬ 0 ≤ cut ∧ j = 0)) := by
              by_cases hc : 0 ≤ cut
              · have h1 := Int.emod_nonneg cut (show (m2 : Int) ≠ 0 by omega)
                have h2 := Int.emod_lt_of_pos cut (show (0 : Int) < (m2 : Int) by omega)
                exact ⟨(cut % (m2 : Int)).toNat, by omega, .inl ⟨hc, (Int.toNat_of_nonneg h1).symm⟩⟩
              · exact ⟨0, by omega, .inr ⟨hc, rfl⟩⟩
            have i0 : (0 : Int) ≤ (j : Int) := by omega
            have i1 : (j : Int) ≤ (c2' : Int) := by omega
            obtain ⟨hbj, hsj⟩ := Hall.out j hj
            have Hbj : Hid (Bytes w5 (some ⟨bb, boff, none⟩) j ((encN ns ++ encT ts).take j)) := hbj
            have Hsj : Hid (Sx ((encN ns ++ encT ts).take j) 0 (encN (ns.drop 0) ++ encT ts)) := hsj
            clear hbj hsj Hall
            rcases hjn with ⟨hc0, hje⟩ | ⟨hc0, hje⟩
            · go_wp2_with fail
              refine (read_any _ j c2' _ w5 Hbj.out (by omega)).mono ?_
              rintro e w6 ⟨r, g, rfl, hr, hg, hrd, hg6⟩
              have hB6 : Below w.heap.size w w6 := hB5.grown hg6 hB5.size (by simp)
              have hr' : w.heap.size ≤ r := Nat.le_trans hB5.size hr
              generalize hL : (encN ns ++ encT ts).take j = L at *
              have HRd : Hid (Rd w6 r g 0 0 L) := hrd
              clear hL hrd hg6 hB5 hr hg Hbj
              go_wp2_with fail
              go_loopw [63] (fun i wr => ∃ (k p : Nat) (er : Int), k ≤ n1 ∧ i = .int .i64 k ∧ Hid (Rd wr r g p er L) ∧ Hid (Sx (L.drop p) er (encN (ns.drop k) ++ encT ts)) ∧ Below w.heap.size w wr) (fun i _ => n1 - (intOf i).toNat)
              case atStart => exact ⟨0, 0, 0, Nat.zero_le _, rfl, HRd, Hsj, hB6⟩
              case round =>
                clear HRd Hsj hB6
                obtain ⟨k3, p, er, hk3, rfl, HR, HS, hB⟩ := hrel
                by_cases hlt3 : k3 < n1
                · have hkl : k3 < ns.length := by have := Hn.out.len; omega
                  have hxf := Hn.out.fits _ (getD_mem ns k3 0 hkl)
                  have hdr := drop_getD ns k3 0 hkl
                  generalize ns.getD k3 0 = x at *
                  have HS1 : Hid (Sx (L.drop p) er (short x ++ (wide x ++ (encN (ns.drop (k3 + 1)) ++ encT ts)))) := by
                    have := HS.out
                    rw [hdr] at this
                    show Sx _ _ _
                    simpa [encN] using this
                  clear hdr HS
                  go_wp2_with fail
                  refine (uint_u _ r g p er 0 L HR.out).mono ?_
                  have hst := stepU (m := 0) hxf HS1.out
                  generalize outOf 1 0 (L.drop p) er = o1 at *
                  rintro e w7 ⟨rfl, p7, hR7, hd7, hg7⟩
                  have HR7 : Hid (Rd w7 r g p7 o1.err L) := hR7
                  rw [← hd7] at hst
                  have HS7 : Hid (Sx (L.drop p7) o1.err (wide x ++ (encN (ns.drop (k3 + 1)) ++ encT ts))) := hst
                  have hB7 : Below w.heap.size w w7 := hB.grown hg7 hB.size (by intro t ht; cases ht; exact hr')
                  clear hR7 hd7 hg7 hst HR HS1 hB
                  go_wp2_with fail
                  refine (word_u _ r g p7 o1.err 0 L HR7.out).mono ?_
                  have hst := stepW (m := 0) hxf HS7.out
                  generalize outOf 2 0 (L.drop p7) o1.err = o2 at *
                  rintro e w8 ⟨rfl, p8, hR8, hd8, hg8⟩
                  have HR8 : Hid (Rd w8 r g p8 o2.err L) := hR8
                  rw [← hd8] at hst
                  have HS8 : Hid (Sx (L.drop p8) o2.err (encN (ns.drop (k3 + 1)) ++ encT ts)) := hst
                  have hB8 : Below w.heap.size w w8 := hB7.grown hg8 hB7.size (by intro t ht; cases ht; exact hr')
                  clear hR8 hd8 hg8 hst HR7 HS7 hB7
                  go_wp2
                  go_roundw
                  case rel => exact ⟨k3 + 1, p8, o2.err, by omega, by go_num, HR8, HS8, hB8⟩
                  case measure => simp [intOf]; omega
                · have HS0 : Hid (Sx (L.drop p) er (encT (ts.drop 0))) := by
                    have := HS.out
                    rw [show ns.drop k3 = [] from List.drop_eq_nil_of_le (by have := Hn.out.len; omega)] at this
                    exact this
                  clear HS
                  go_wp2_with fail
                  go_loopw [72] (fun i wr => ∃ (k p : Nat) (er : Int), k ≤ n2 ∧ i = .int .i64 k ∧ Hid (Rd wr r g p er L) ∧ Hid (Sx (L.drop p) er (encT (ts.drop k))) ∧ Below w.heap.size w wr) (fun i _ => n2 - (intOf i).toNat)
                  case atStart => exact ⟨0, p, er, Nat.zero_le _, rfl, HR, HS0, hB⟩
                  case round =>
                    clear HR HS0 hB
                    obtain ⟨k4, p4, er4, hk4, rfl, HR, HS, hB⟩ := hrel
                    by_cases hlt4 : k4 < n2
                    · obtain ⟨tb, toff, rfl, hcell⟩ := Ht.out.cells (by omega)
                      have hck := hcell k4 hlt4
                      rw [← hB.cell (World.block_lt_of_cell? w _ hck)] at hck
                      have hkl : k4 < ts.length := by have := Ht.out.len; omega
                      have hsz := Hts.out _ (getD_mem ts k4 ByteArray.empty hkl)
                      have hdr := drop_getD ts k4 ByteArray.empty hkl
                      generalize ts.getD k4 ByteArray.empty = s at *
                      have HS1 : Hid (Sx (L.drop p4) er4 (short s.size ++ (s.data.toList ++ encT (ts.drop (k4 + 1))))) := by
                        have := HS.out
                        rw [hdr] at this
                        show Sx _ _ _
                        simpa [encT] using this
                      clear hdr HS hcell
                      go_wp2_with fail
                      refine (text_u _ r g p4 er4 s.size L HR.out (by omega)).mono ?_
                      have hst := stepT (by omega) HS1.out
                      generalize outOf 3 (s.size : Int) (L.drop p4) er4 = o1 at *
                      rintro e w7 ⟨rfl, p7, hR7, hd7, hg7⟩
                      have HR7 : Hid (Rd w7 r g p7 o1.err L) := hR7
                      rw [← hd7] at hst
                      have HS7 : Hid (Sx (L.drop p7) o1.err (encT (ts.drop (k4 + 1)))) := hst
                      have hB7 : Below w.heap.size w w7 := hB.grown hg7 hB.size (by intro t ht; cases ht; exact hr')
                      clear hR7 hd7 hg7 hst HR HS1 hB
                      go_wp2
                      go_roundw
                      case rel => exact ⟨k4 + 1, p7, o1.err, by omega, by go_num, HR7, HS7, hB7⟩
                      case measure => simp [intOf]; omega
                    · have her : er4 = 110 := by
                        rcases HS.out with h | ⟨_, q, _, hq⟩
                        · exact h
                        · rw [show ts.drop k4 = [] from List.drop_eq_nil_of_le (by have := Ht.out.len; omega)] at hq
                          simp [encT] at hq
                      subst her
                      clear HS
                      go_wp2_with fail
                      refine (err_any _ r 110 HR.out.c1).mono ?_
                      rintro e w9 ⟨rfl, rfl⟩
                      go_wp2_with fail
                      refine (end_err _ r 110 HR.out.c1 rfl).mono ?_
                      rintro e w10 ⟨rfl, rfl⟩
                      go_wp2
                      go_ret
                      exact ⟨rfl, hB⟩
            · subst hje
              go_wp2_with fail
              refine (read_any _ 0 c2' _ w5 Hbj.out (by omega)).mono ?_
              rintro e w6 ⟨r, g, rfl, hr, hg, hrd, hg6⟩
              have hB6 : Below w.heap.size w w6 := hB5.grown hg6 hB5.size (by simp)
              have hr' : w.heap.size ≤ r := Nat.le_trans hB5.size hr
              generalize hL : (encN ns ++ encT ts).take 0 = L at *
              have HRd : Hid (Rd w6 r g 0 0 L) := hrd
              clear hL hrd hg6 hB5 hr hg Hbj
              go_wp2_with fail
              go_loopw [63] (fun i wr => ∃ (k p : Nat) (er : Int), k ≤ n1 ∧ i = .int .i64 k ∧ Hid (Rd wr r g p er L) ∧ Hid (Sx (L.drop p) er (encN (ns.drop k) ++ encT ts)) ∧ Below w.heap.size w wr) (fun i _ => n1 - (intOf i).toNat)
              case atStart => exact ⟨0, 0, 0, Nat.zero_le _, rfl, HRd, Hsj, hB6⟩
              case round =>
                clear HRd Hsj hB6
                obtain ⟨k3, p, er, hk3, rfl, HR, HS, hB⟩ := hrel
                by_cases hlt3 : k3 < n1
                · have hkl : k3 < ns.length := by have := Hn.out.len; omega
                  have hxf := Hn.out.fits _ (getD_mem ns k3 0 hkl)
                  have hdr := drop_getD ns k3 0 hkl
                  generalize ns.getD k3 0 = x at *
                  have HS1 : Hid (Sx (L.drop p) er (short x ++ (wide x ++ (encN (ns.drop (k3 + 1)) ++ encT ts)))) := by
                    have := HS.out
                    rw [hdr] at this
                    show Sx _ _ _
                    simpa [encN] using this
                  clear hdr HS
                  go_wp2_with fail
                  refine (uint_u _ r g p er 0 L HR.out).mono ?_
                  have hst := stepU (m := 0) hxf HS1.out
                  generalize outOf 1 0 (L.drop p) er = o1 at *
                  rintro e w7 ⟨rfl, p7, hR7, hd7, hg7⟩
                  have HR7 : Hid (Rd w7 r g p7 o1.err L) := hR7
                  rw [← hd7] at hst
                  have HS7 : Hid (Sx (L.drop p7) o1.err (wide x ++ (encN (ns.drop (k3 + 1)) ++ encT ts))) := hst
                  have hB7 : Below w.heap.size w w7 := hB.grown hg7 hB.size (by intro t ht; cases ht; exact hr')
                  clear hR7 hd7 hg7 hst HR HS1 hB
                  go_wp2_with fail
                  refine (word_u _ r g p7 o1.err 0 L HR7.out).mono ?_
                  have hst := stepW (m := 0) hxf HS7.out
                  generalize outOf 2 0 (L.drop p7) o1.err = o2 at *
                  rintro e w8 ⟨rfl, p8, hR8, hd8, hg8⟩
                  have HR8 : Hid (Rd w8 r g p8 o2.err L) := hR8
                  rw [← hd8] at hst
                  have HS8 : Hid (Sx (L.drop p8) o2.err (encN (ns.drop (k3 + 1)) ++ encT ts)) := hst
                  have hB8 : Below w.heap.size w w8 := hB7.grown hg8 hB7.size (by intro t ht; cases ht; exact hr')
                  clear hR8 hd8 hg8 hst HR7 HS7 hB7
                  go_wp2
                  go_roundw
                  case rel => exact ⟨k3 + 1, p8, o2.err, by omega, by go_num, HR8, HS8, hB8⟩
                  case measure => simp [intOf]; omega
                · have HS0 : Hid (Sx (L.drop p) er (encT (ts.drop 0))) := by
                    have := HS.out
                    rw [show ns.drop k3 = [] from List.drop_eq_nil_of_le (by have := Hn.out.len; omega)] at this
                    exact this
                  clear HS
                  go_wp2_with fail
                  go_loopw [72] (fun i wr => ∃ (k p : Nat) (er : Int), k ≤ n2 ∧ i = .int .i64 k ∧ Hid (Rd wr r g p er L) ∧ Hid (Sx (L.drop p) er (encT (ts.drop k))) ∧ Below w.heap.size w wr) (fun i _ => n2 - (intOf i).toNat)
                  case atStart => exact ⟨0, p, er, Nat.zero_le _, rfl, HR, HS0, hB⟩
                  case round =>
                    clear HR HS0 hB
                    obtain ⟨k4, p4, er4, hk4, rfl, HR, HS, hB⟩ := hrel
                    by_cases hlt4 : k4 < n2
                    · obtain ⟨tb, toff, rfl, hcell⟩ := Ht.out.cells (by omega)
                      have hck := hcell k4 hlt4
                      rw [← hB.cell (World.block_lt_of_cell? w _ hck)] at hck
                      have hkl : k4 < ts.length := by have := Ht.out.len; omega
                      have hsz := Hts.out _ (getD_mem ts k4 ByteArray.empty hkl)
                      have hdr := drop_getD ts k4 ByteArray.empty hkl
                      generalize ts.getD k4 ByteArray.empty = s at *
                      have HS1 : Hid (Sx (L.drop p4) er4 (short s.size ++ (s.data.toList ++ encT (ts.drop (k4 + 1))))) := by
                        have := HS.out
                        rw [hdr] at this
                        show Sx _ _ _
                        simpa [encT] using this
                      clear hdr HS hcell
                      go_wp2_with fail
                      refine (text_u _ r g p4 er4 s.size L HR.out (by omega)).mono ?_
                      have hst := stepT (by omega) HS1.out
                      generalize outOf 3 (s.size : Int) (L.drop p4) er4 = o1 at *
                      rintro e w7 ⟨rfl, p7, hR7, hd7, hg7⟩
                      have HR7 : Hid (Rd w7 r g p7 o1.err L) := hR7
                      rw [← hd7] at hst
                      have HS7 : Hid (Sx (L.drop p7) o1.err (encT (ts.drop (k4 + 1)))) := hst
                      have hB7 : Below w.heap.size w w7 := hB.grown hg7 hB.size (by intro t ht; cases ht; exact hr')
                      clear hR7 hd7 hg7 hst HR HS1 hB
                      go_wp2
                      go_roundw
                      case rel => exact ⟨k4 + 1, p7, o1.err, by omega, by go_num, HR7, HS7, hB7⟩
                      case measure => simp [intOf]; omega
                    · have her : er4 = 110 := by
                        rcases HS.out with h | ⟨_, q, _, hq⟩
                        · exact h
                        · rw [show ts.drop k4 = [] from List.drop_eq_nil_of_le (by have := Ht.out.len; omega)] at hq
                          simp [encT] at hq
                      subst her
                      clear HS
                      go_wp2_with fail
                      refine (err_any _ r 110 HR.out.c1).mono ?_
                      rintro e w9 ⟨rfl, rfl⟩
                      go_wp2_with fail
                      refine (end_err _ r 110 HR.out.c1 rfl).mono ?_
                      rintro e w10 ⟨rfl, rfl⟩
                      go_wp2
                      go_ret
                      exact ⟨rfl, hB⟩

end Go.Proofs.Ytkfmihbbmafolaa
