import Derived.Test.YtiafhbpklddlnaaR38
import Derived.Test.YtiafhbpklddlnaaR14
/- The walk of encode: the payload of a record that says changes. -/
namespace Go.Proofs.Ytiafhbpklddlnaa
open Go.RowKit Go.Maps

attribute [local go_sem] Oper.semAt_some

def chB (x : Ch) : List UInt8 := (short x.1.size ++ x.1.data.toList) ++ wide x.2.toNat
def chsB (l : List Ch) : List UInt8 := (l.map chB).flatten
/-- the payload of a record that says changes -/
def encR (l : List Ch) : List UInt8 := short l.length ++ chsB l
theorem chsB_take (l : List Ch) (k : Nat) (x : Ch) (h : l[k]? = some x) : chsB (l.take (k + 1)) = chsB (l.take k) ++ chB x := by
  have hk := (List.getElem?_eq_some_iff.1 h).1
  have hx : l[k] = x := (List.getElem?_eq_some_iff.1 h).2
  rw [List.take_succ_eq_append_getElem hk, hx]
  simp [chsB]
theorem chsB_take_le (l : List Ch) (k : Nat) : (chsB (l.take k)).length ≤ (chsB l).length := by
  have : chsB l = chsB (l.take k) ++ chsB (l.drop k) := by
    conv => lhs; rw [← List.take_append_drop k l]
    simp only [chsB, List.map_append, List.flatten_append]
  rw [this, List.length_append]; omega
theorem bytes_nil (w : World) : Bytes w none 0 [] := ⟨rfl, fun h => absurd h (by omega)⟩
theorem wide_len8 (x : Nat) : (wide x).length = 8 := by simp [wide, wideTo]

set_option maxRecDepth 100000 in
set_option maxHeartbeats 4000000 in
theorem encode_any (w : World) (a : Option Addr) (m c : Nat) (l : List Ch) (hl : Chs w a m l) (hi : ∀ x ∈ l, 0 ≤ x.2 ∧ x.2 ≤ 18446744073709551615) (hm : m ≤ 1000000000000) (hE : (encR l).length ≤ 281474976710640) :
    Calls Try.prog 28 #[.slice a m c] w fun e w' => ∃ gg cp, e = .returned (.slice (some ⟨gg, 0, none⟩) (encR l).length cp) ∧ Bytes w' (some ⟨gg, 0, none⟩) (encR l).length (encR l) ∧ w.heap.size ≤ gg ∧ Below w.heap.size w w' := by
  have hll := hl.1
  obtain ⟨E, hEE⟩ : ∃ E, E = encR l := ⟨_, rfl⟩
  rw [← hEE]
  have HE : Hid (E = encR l) := hEE
  clear hEE
  go_enter Try.func28, Try.ntmps28
  have hu := putUint_any none 0 0 m [] w (bytes_nil w) (by omega) (by omega)
  have hsl := short_len m
  go_wp2_with (go_at_call 50; refine hu.mono ?_; clear hu; rintro e w1 ⟨g1, c1, rfl, ho1, hg1⟩; have H1 : Hid (w1.ownsRow w.heap.size 5 1 (.slice (some ⟨g1, 0, none⟩) (0 + (short m).length) c1) (0 + (short m).length) (cellsOf ([] ++ short m)) ∧ w.grownBy w1 none) := ⟨ho1, hg1⟩; clear ho1 hg1)
  go_loopw [3, 12] (fun v i wr => ∃ (k gg p cp : Nat), k ≤ m ∧ i = .int .i64 (k : Int) ∧ v = .slice (some ⟨gg, 0, none⟩) p cp ∧ Hid (p = (short m ++ chsB (l.take k)).length ∧ Bytes wr (some ⟨gg, 0, none⟩) p (short m ++ chsB (l.take k)) ∧ Below w.heap.size w wr ∧ w.heap.size ≤ gg)) (fun _ i _ => m - (intOf i).toNat)
  case atStart => exact ⟨0, g1, _, c1, Nat.zero_le _, rfl, rfl, by simp [chsB], by have := (ownsRow_toBytes H1.out.1).1; simpa [chsB] using this, (Below.refl _ w).grown H1.out.2 (Nat.le_refl _) (by simp), ((ownsRow_toBytes H1.out.1).2 _ rfl).1⟩
  case round =>
    obtain ⟨k, gg, p, cp, hk, rfl, rfl, H⟩ := hrel
    by_cases hlt : k < m
    · obtain ⟨x, hx⟩ : ∃ x, l[k]? = some x := ⟨_, List.getElem?_eq_getElem (by omega)⟩
      obtain ⟨b1, o1, rfl, hc1⟩ := hl.2 (by omega)
      obtain ⟨t1, t2⟩ := hc1 k x hx
      obtain ⟨hi0, hi1⟩ := hi x (List.mem_of_getElem? hx)
      obtain ⟨hp, hby, hB, hgg⟩ := H.out
      have q1 := (hB.cell (p := ⟨b1, o1 + k * 2, none⟩) (World.block_lt_of_cell? w _ t1)).trans t1
      have q2 := (hB.cell (p := ⟨b1, o1 + k * 2 + 1, none⟩) (World.block_lt_of_cell? w _ t2)).trans t2
      have hst := chsB_take l k x hx
      have hle := chsB_take_le l (k + 1)
      rw [hst] at hle
      simp only [encR, List.length_append, hll] at hE
      have i2 : (k : Int) < (m : Int) := by omega
      have i3 : ¬ m ≤ k := by omega
      clear hc1 hx t1 t2 H
      obtain ⟨nm, id⟩ := x
      simp only [chB, List.length_append, wide_len8] at q1 q2 hst hle hi0 hi1
      obtain ⟨idn, rfl⟩ : ∃ z : Nat, id = (z : Int) := ⟨id.toNat, by omega⟩
      have hnl : nm.data.toList.length = nm.size := by simp
      rw [hnl] at hle
      have hpl : p = (short m).length + (chsB (l.take k)).length := by rw [hp, List.length_append]
      have hBa : Below wr.heap.size wr (wr.alloc (.cells #[.string nm, .int .u64 (idn : Int)] 31)) := (Below.refl _ wr).alloc (Nat.le_refl _) _
      have hby1 := (Turn.of_below (fun _ => False) hBa).bytes hby (fun _ _ _ => id)
      have hT := putText_any (some ⟨gg, 0, none⟩) p cp nm _ (wr.alloc (.cells #[.string nm, .int .u64 (idn : Int)] 31)) hby1 (by omega)
      have HB : Hid (Below w.heap.size w (wr.alloc (.cells #[.string nm, .int .u64 (idn : Int)] 31))) := hB.trans (hBa.mono hB.size)
      have d0 : (wr.alloc (.cells #[.string nm, .int .u64 (idn : Int)] 31)).cell? ⟨wr.heap.size, 0, none⟩ = some (.string nm) := by simp only [World.cell?, World.alloc_heap_new]; rfl
      have d1 : (wr.alloc (.cells #[.string nm, .int .u64 (idn : Int)] 31)).cell? ⟨wr.heap.size, 1, none⟩ = some (.int .u64 (idn : Int)) := by simp only [World.cell?, World.alloc_heap_new]; rfl
      have HST : Hid (chsB (l.take (k + 1)) = chsB (l.take k) ++ (short nm.size ++ nm.data.toList ++ wide idn)) := show _ = _ by simpa using hst
      have hlt8 : Hid (p + (short nm.size).length + nm.size + 8 ≤ 281474976710640 ∧ idn < 18446744073709551616) := ⟨by omega, by omega⟩
      have HP : Hid (p = (short m).length + (chsB (l.take k)).length) := hpl
      clear hBa hB hby hby1 hp hpl hle hst hnl hE
      go_wp2_with first
        | (go_at_call 51; refine hT.mono ?_; clear hT; rintro e w2 ⟨g2, m2, c2, hm2, rfl, ho2, hg2⟩; have hB2 : Below (wr.alloc (.cells #[.string nm, .int .u64 (idn : Int)] 31)).heap.size (wr.alloc (.cells #[.string nm, .int .u64 (idn : Int)] 31)) w2 := (Below.refl _ _).grown hg2 (Nat.le_refl _) (by simp); have q4 := (hB2.cell (p := ⟨wr.heap.size, 1, none⟩) (by simp)).trans d1; have HB2 : Hid (Below w.heap.size w w2) := HB.out.trans (hB2.mono HB.out.size); have hW := putWord_any (some ⟨g2, 0, none⟩) m2 c2 idn _ w2 (ownsRow_toBytes ho2).1 (by have := hlt8.out; omega) hlt8.out.2; have HM : Hid (m2 = p + (short nm.size).length + nm.size) := hm2; clear hm2 ho2 hg2 hB2)
        | (go_at_call 52; refine hW.mono ?_; clear hW; rintro e w3 ⟨g3, c3, rfl, ho3, hg3⟩; have H3 : Hid (Bytes w3 (some ⟨g3, 0, none⟩) (m2 + 8) (((short m ++ chsB (l.take k)) ++ (short nm.size ++ nm.data.toList)) ++ wide idn) ∧ Below w.heap.size w w3 ∧ w.heap.size ≤ g3) := ⟨(ownsRow_toBytes ho3).1, HB2.out.trans (((Below.refl _ w2).grown hg3 (Nat.le_refl _) (by simp)).mono HB2.out.size), Nat.le_trans HB2.out.size ((ownsRow_toBytes ho3).2 _ rfl).1⟩; clear ho3 hg3)
      go_roundw
      case rel => exact ⟨k + 1, g3, m2 + 8, c3, by omega, by simp, rfl, by rw [HST.out, HM.out, HP.out]; simp [wide_len8]; omega, by rw [HST.out]; have := H3.out.1; simpa using this, H3.out.2⟩
      case measure => simp [intOf]; omega
    · obtain rfl : k = m := by omega
      have i2 : ¬ (k : Int) < (k : Int) := by omega
      have e0 : l.take k = l := List.take_of_length_le (by omega)
      rw [e0] at H
      obtain ⟨hp, hby, hB, hgg⟩ := H.out
      have e1 : encR l = short k ++ chsB l := by unfold encR; rw [hll]
      rw [← e1, ← HE.out] at hp hby
      subst hp
      go_wp2
      go_ret
      exact ⟨gg, ⟨cp, rfl⟩, hby, hgg, hB⟩
end Go.Proofs.Ytiafhbpklddlnaa
