/- A blob's bytes. -/
import Derived.Test.YtdibdcbihleflaaOEnc
namespace Go.Proofs.Ytdibdcbihleflaa
open Go.RowKit

def blobErr (n : Nat) : Int := if 4096 < n then 3 else 0
theorem checkBlob_any (a : Option Addr) (n c : Nat) (w : World) : Calls Try.prog 73 #[.agg #[.slice a n c]] w fun e w' => e = .returned (.int .i64 (blobErr n)) ∧ Below w.heap.size w w' := by
  have hB0 : Below w.heap.size w (w.alloc (.cells #[.slice a n c] 25)) := (Below.refl _ w).alloc (Nat.le_refl _) _
  by_cases h : 4096 < n
  · have i1 : (4096 : Int) < n := by omega
    go_enter Try.func73, Try.ntmps73
    go_wp2
    go_ret
    exact ⟨by unfold blobErr; rw [if_pos h]; rfl, hB0⟩
  · have i1 : ¬ (4096 : Int) < n := by omega
    go_enter Try.func73, Try.ntmps73
    go_wp2
    go_ret
    exact ⟨by unfold blobErr; rw [if_neg h]; rfl, hB0⟩
theorem check_blob (a : Option Addr) (n c : Nat) (w : World) : Calls Try.prog 50 #[.iface 25 (.agg #[.slice a n c])] w fun e w' => e = .returned (.int .i64 (blobErr n)) ∧ Below w.heap.size w w' := by
  have h1 := as_blob (.agg #[.slice a n c])
  have hB0 : Below w.heap.size w (w.alloc (.cells #[.slice a n c] 25)) := (Below.refl _ w).alloc (Nat.le_refl _) _
  go_enter Try.func50, Try.ntmps50
  go_wp2_with (go_at_call 73; refine (checkBlob_any a n c _).mono ?_; rintro e w1 ⟨rfl, hB⟩)
  go_ret
  exact ⟨rfl, hB0.trans (hB.mono (by simp))⟩

theorem out_new (w : World) : Out w w.heap.size [] (w.alloc (.cells #[.slice none 0 0] 22)) :=
  ⟨⟨_, Boxed.new _ _ _, World.ownsRow_nil _ _ _ _⟩, (Below.refl _ w).alloc (Nat.le_refl _) _, Nat.le_refl _⟩
theorem bytes_below {w W : World} {a : Option Addr} {n : Nat} {l : List UInt8} (h : Bytes w a n l) (hB : Below w.heap.size w W) : Bytes W a n l := by
  refine ⟨h.1, fun h0 => ?_⟩
  obtain ⟨b, off, e, hc⟩ := h.2 h0
  refine ⟨b, off, e, fun j hj => ?_⟩
  exact (hB.cell (p := ⟨b, off + j, none⟩) (World.block_lt_of_cell? w _ (hc j hj))).trans (hc j hj)

set_option maxRecDepth 20000 in
set_option maxHeartbeats 1000000 in
theorem encode_blob (a : Option Addr) (n c : Nat) (l : List UInt8) (w : World) (hb : Bytes w a n l) (hnil : a = none → n = 0 ∧ c = 0) (hm : n ≤ 70368744177664) :
    Calls Try.prog 57 #[.iface 25 (.agg #[.slice a n c])] w fun e w' => ∃ v, e = .returned v ∧ w'.ownsRow w.heap.size 5 1 v (98 :: l).length (cellsOf (98 :: l)) ∧ Below w.heap.size w w' := by
  have hmf : ∀ (fn : Fn) (first cap : Array Value) (w : World), (Instr.makeFunc fn first cap).run Try.prog w = .ok (.func fn first cap) w := fun _ _ _ _ => rfl
  have h1 := as_blob (.agg #[.slice a n c])
  have HO := ((out_new w).alloc (.cells #[.slice a n c] 25)).alloc (.cells #[.int .u8 98] 5)
  have hO2 : Boxed ((w.alloc (.cells #[.slice none 0 0] 22)).alloc (.cells #[.slice a n c] 25)) (w.heap.size + 1) 25 (.slice a n c) := by
    have := Boxed.new (w.alloc (.cells #[.slice none 0 0] 22)) 25 (.slice a n c)
    rw [World.size_alloc] at this
    exact this
  have hby := bytes_new ((w.alloc (.cells #[.slice none 0 0] 22)).alloc (.cells #[.slice a n c] 25)) [98] _ rfl
  have hp := put_any w w.heap.size [] (some ⟨w.heap.size + 1 + 1, 0, none⟩) 1 1 [98] _ HO (by rw [World.size_alloc, World.size_alloc] at hby; exact hby) (fun h => by cases h) (by simp)
  clear HO
  have hK := hO2.alloc (.cells #[.int .u8 98] 5)
  clear hO2 hby
  go_enter Try.func57, Try.ntmps57
  go_wp2_with first
    | (go_at_call 76; refine hp.mono ?_; rintro e w1 ⟨rfl, hO1, hk1⟩; have cb := (hk1 _ _ _ hK (by decide) (by omega)).cell; have HO1 : Hid (Out w w.heap.size ([] ++ [98]) w1) := hO1; clear hp hO1 hk1)
    | (go_at_call 76; refine (put_any w w.heap.size ([] ++ [98]) a n c l _ HO1.out (bytes_below hb HO1.out.bel) hnil (by simp; omega)).mono ?_; rintro e w2 ⟨rfl, hO2, _⟩; obtain ⟨v, hv, ho⟩ := hO2.box; have cv := hv.cell; obtain ⟨ad, cp, rfl, _⟩ := row_shape ho; have HO2 : Hid (Out w w.heap.size (([] ++ [98]) ++ l) w2) := hO2; clear hO2 HO1)
  go_ret
  exact ⟨_, rfl, ho, HO2.out.bel⟩
theorem row_lower {w : World} {B B' n : Nat} {e : TypeId} {v : Value} {xs : List Value} (h : w.ownsRow B e 1 v n xs) (hB : B' ≤ B) : w.ownsRow B' e 1 v n xs := by
  refine ⟨h.1, ?_⟩
  rcases h.2 with h0 | ⟨g, cap, cur, h1, h2, h3⟩
  · exact .inl h0
  · exact .inr ⟨g, cap, cur, h1, by omega, h3⟩
theorem Encode_blob (a : Option Addr) (n c : Nat) (l : List UInt8) (w : World) (hb : Bytes w a n l) (hnil : a = none → n = 0 ∧ c = 0) (hm : n ≤ 4096) :
    Calls Try.prog 29 #[.iface 25 (.agg #[.slice a n c])] w fun e w' => ∃ v, e = .returned (.tuple #[v, .int .i64 0]) ∧ w'.ownsRow w.heap.size 5 1 v (98 :: l).length (cellsOf (98 :: l)) ∧ Below w.heap.size w w' := by
  have c1 := check_blob a n c w
  rw [show blobErr n = 0 by unfold blobErr; rw [if_neg (by omega)]] at c1
  go_enter Try.func29, Try.ntmps29
  go_wp2_with first
    | (go_at_call 50; refine c1.mono ?_; rintro e w1 ⟨rfl, hB1⟩)
    | (go_at_call 57; refine (encode_blob a n c l _ (bytes_below hb hB1) hnil (by omega)).mono ?_; rintro e w2 ⟨v, rfl, ho, hB2⟩; have HO : Hid (w2.ownsRow w1.heap.size 5 1 v (98 :: l).length (cellsOf (98 :: l))) := ho; clear ho)
  go_ret2
  refine ⟨_, rfl, ?_, hB1.trans (hB2.mono hB1.size)⟩
  exact row_lower HO.out hB1.size
end Go.Proofs.Ytdibdcbihleflaa
