/- A record's bytes, and the walk of the function that makes them. -/
import Derived.Test.YtjbifbfhlmdlbaaPut
import Derived.Test.YtjbifbfhlmdlbaaHash
namespace Go.Proofs.Ytjbifbfhlmdlbaa
open Go.RowKit

/-- the hash of bytes, as a number -/
def hashN (l : List UInt8) : Nat := (hashTo l l.length).toNat
theorem hashN_eq (l : List UInt8) : ((hashN l : Nat) : Int) = hashTo l l.length := by
  have := hashTo_lo l l.length
  unfold hashN; omega
theorem hashN_lt (l : List UInt8) : hashN l < 18446744073709551616 := by
  have := hashTo_hi l l.length
  have := hashTo_lo l l.length
  unfold hashN; omega
/-- a record's bytes -/
def recB (l : List UInt8) : List UInt8 := short l.length ++ (l ++ wide (hashN l))
theorem wide_len (x : Nat) : (wide x).length = 8 := wideTo_len x 8
theorem recB_len (l : List UInt8) : (recB l).length = (short l.length).length + l.length + 8 := by
  unfold recB; rw [List.length_append, List.length_append, wide_len]; omega
theorem recB_pos (l : List UInt8) : 9 + l.length ≤ (recB l).length ∧ (recB l).length ≤ l.length + 18 := by
  have h1 := shortF_pos 9 l.length
  have h2 := short_len l.length
  rw [recB_len]
  unfold short at *
  omega

theorem ownsRow_up {w : World} {B B' n : Nat} {v : Value} {xs : List Value} (h : w.ownsRow B' 5 1 v n xs) (hB : B ≤ B') : w.ownsRow B 5 1 v n xs := by
  refine ⟨h.1, ?_⟩
  rcases h.2 with h0 | ⟨g, cap, cur, rfl, h1, h2⟩
  · exact .inl h0
  · exact .inr ⟨g, cap, cur, rfl, by omega, h2⟩

theorem hash_nat (a : Option Addr) (n c : Nat) (l : List UInt8) (w : World) (hb : Bytes w a n l) (hm : n ≤ maxLen) :
    Calls Try.prog 47 #[.slice a n c] w fun e w' => e = .returned (.int .u64 (hashN l)) ∧ w' = w := by
  rw [hashN_eq, hb.1]
  exact hash_any a n c l w hb hm

set_option maxHeartbeats 1000000 in
theorem form_any (a : Option Addr) (n c : Nat) (l : List UInt8) (w : World) (hb : Bytes w a n l) (hn : n ≤ 140737488355328) :
    Calls Try.prog 36 #[.slice a n c] w fun e w' => ∃ g c', e = .returned (.slice (some ⟨g, 0, none⟩) (recB l).length c') ∧
      w'.ownsRow w.heap.size 5 1 (.slice (some ⟨g, 0, none⟩) (recB l).length c') (recB l).length (cellsOf (recB l)) ∧ Below w.heap.size w w' := by
  have hrs := run_string w a n c l hb
  have hnilB : Bytes w none 0 [] := ⟨rfl, fun h => absurd h (by omega)⟩
  have hx1 : Calls Try.prog 52 #[.slice none 0 0, .string ⟨l.toArray⟩] w fun e w' => ∃ g m c, Hid (m + 8 = (recB l).length ∧ m ≤ 281474976710640) ∧ e = .returned (.slice (some ⟨g, 0, none⟩) m c) ∧
      w'.ownsRow w.heap.size 5 1 (.slice (some ⟨g, 0, none⟩) m c) m (cellsOf (short l.length ++ l)) ∧ w.grownBy w' none := by
    have hs := short_len l.length
    have hl := hb.1
    refine (putText_any none 0 0 ⟨l.toArray⟩ [] w hnilB (by show 0 + l.length ≤ _; omega)).mono ?_
    rintro e w' ⟨g, m, c1, hm, he, hown, hg⟩
    have hm' : m = 0 + (short l.length).length + l.length := hm
    exact ⟨g, m, c1, ⟨by rw [recB_len]; omega, by omega⟩, he, hown, hg⟩
  go_enter Try.func36, Try.ntmps36
  go_wp2_with fail
  refine hx1.mono ?_
  rintro e w1 ⟨g, m, c1, hm, rfl, hown1, hg1⟩
  have hB1 : Below w.heap.size w w1 := (Below.refl _ _).grown hg1 (Nat.le_refl _) (by simp)
  have hb1 : Bytes w1 a n l := hb.kept hg1 (by simp)
  have hbm := (ownsRow_bytes hown1).1
  clear hb hrs hx1 hown1 hg1
  go_wp2_with fail
  refine (hash_nat a n c l w1 hb1 (by unfold maxLen; omega)).mono ?_
  rintro e w2 ⟨rfl, rfl⟩
  clear hb1
  go_wp2_with fail
  refine (putWord_any (some ⟨g, 0, none⟩) m c1 (hashN l) _ w2 hbm hm.out.2 (hashN_lt l)).mono ?_
  rintro e w3 ⟨g3, c3, rfl, hown3, hg3⟩
  clear hbm
  go_wp2
  go_ret
  have hE2 : (short l.length ++ l) ++ wide (hashN l) = recB l := by unfold recB; rw [List.append_assoc]
  rw [hE2, hm.out.1] at hown3
  exact ⟨g3, c3, by rw [hm.out.1]; rfl, ownsRow_up hown3 hB1.size, hB1.grown hg3 hB1.size (by simp)⟩

end Go.Proofs.Ytjbifbfhlmdlbaa
