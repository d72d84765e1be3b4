/- What the calls of the layer answer of a tree. -/
import Derived.Test.YtdibdcbihleflaaOPut
import Derived.Test.YtdibdcbihleflaaORefTree
namespace Go.Proofs.Ytdibdcbihleflaa
open Go.RowKit

theorem Ents.below {w W : World} {a : Option Addr} {n : Nat} {l : List Ent} (h : Ents w a n l) (hB : Below w.heap.size w W) : Ents W a n l := h.kept hB
abbrev trV (a : Option Addr) (n c : Nat) : Value := .iface 35 (.agg #[.slice a n c])
def treeB (l : List Ent) : List UInt8 := 116 :: (short l.length ++ entsB l)
theorem no_blob_tree (v : Value) : ∀ xT w, (Instr.typeAssert (.iface 35 v) xT 25 true).run Try.prog w = .ok (.tuple #[.agg #[.slice none 0 0], .bool false]) w := no_blob 35 (by decide) v

theorem check_tree (a : Option Addr) (n c : Nat) (l : List Ent) (w : World) (h : Ents w a n l) (hs : Short l) (hn : n ≤ 9223372036854775807) : Calls Try.prog 50 #[trV a n c] w fun e w' => e = .returned (.int .i64 (treeErrs l)) ∧ Below w.heap.size w w' := by
  have h1 := no_blob_tree (.agg #[.slice a n c])
  have h2 := as_tree (.agg #[.slice a n c])
  have hB0 : Below w.heap.size w (w.alloc (.cells #[.slice a n c] 35)) := (Below.refl _ w).alloc (Nat.le_refl _) _
  have hc := checkTree_any a n c l _ (h.below hB0) hs hn
  go_enter Try.func50, Try.ntmps50
  go_wp2_with (go_at_call 74; refine hc.mono ?_; rintro e w1 ⟨rfl, hB⟩)
  go_ret
  exact ⟨rfl, hB0.trans (hB.mono (by simp))⟩
theorem Check_tree (a : Option Addr) (n c : Nat) (l : List Ent) (w : World) (h : Ents w a n l) (hs : Short l) (hn : n ≤ 9223372036854775807) : Calls Try.prog 31 #[trV a n c] w fun e w' => e = .returned (.int .i64 (treeErrs l)) ∧ Below w.heap.size w w' := by
  have hc := check_tree a n c l w h hs hn
  go_enter Try.func31, Try.ntmps31
  go_wp2_with (go_at_call 50; refine hc.mono ?_; rintro e w1 ⟨rfl, hB⟩)
  go_ret
  exact ⟨rfl, hB⟩

set_option maxRecDepth 20000 in
set_option maxHeartbeats 1000000 in
theorem encode_tree (a : Option Addr) (n c : Nat) (l : List Ent) (w : World) (h : Ents w a n l) (hF : Fits l) (hn : n ≤ 256) :
    Calls Try.prog 57 #[trV a n c] w fun e w' => ∃ ad m cp, e = .returned (.slice ad m cp) ∧ (treeB l).length = m ∧ OwnB w.heap.size (treeB l) (.slice ad m cp) w' ∧ Below w.heap.size w w' := by
  have hmf : ∀ (fn : Fn) (first cap : Array Value) (w : World), (Instr.makeFunc fn first cap).run Try.prog w = .ok (.func fn first cap) w := fun _ _ _ _ => rfl
  have h1 := no_blob_tree (.agg #[.slice a n c])
  have h2 := as_tree (.agg #[.slice a n c])
  have HO := ((out_new w).alloc (.cells #[.slice a n c] 35)).alloc (.cells #[.int .u8 116] 5)
  have hO2 : Boxed ((w.alloc (.cells #[.slice none 0 0] 22)).alloc (.cells #[.slice a n c] 35)) (w.heap.size + 1) 35 (.slice a n c) := by
    have := Boxed.new (w.alloc (.cells #[.slice none 0 0] 22)) 35 (.slice a n c)
    rw [World.size_alloc] at this
    exact this
  have hby := bytes_new ((w.alloc (.cells #[.slice none 0 0] 22)).alloc (.cells #[.slice a n c] 35)) [116] _ rfl
  have hp := put_any2 w w.heap.size [] (some ⟨w.heap.size + 1 + 1, 0, none⟩) 1 1 [116] _ HO (by rw [World.size_alloc, World.size_alloc] at hby; exact hby) (fun h => by cases h) (by simp)
  clear HO
  have hK := hO2.alloc (.cells #[.int .u8 116] 5)
  have hll := h.1
  clear hO2 hby
  go_enter Try.func57, Try.ntmps57
  go_wp2_with first
    | (go_at_call 76; refine hp.mono ?_; rintro e w1 ⟨rfl, hO1, hk1⟩; have hbx : Boxed w1 (w.heap.size + 1) 35 (.slice a n c) := hk1 _ _ _ hK (by decide) (by omega); have cb := hbx.cell; have HO1 : Hid (Out w w.heap.size ([] ++ [116]) w1) := hO1; clear hp hO1 hk1 hbx)
    | (go_at_call 77; refine (putTree_any w w.heap.size ([] ++ [116]) a n c l _ HO1.out h hF hn (by simp)).mono ?_; rintro e w2 ⟨rfl, hO2, _⟩; obtain ⟨v, hv, ho⟩ := hO2.box; have cv := hv.cell; have HO2 : Hid (OwnB w.heap.size (treeB l) v w2 ∧ Below w.heap.size w w2) := ⟨⟨by have e : treeB l = [] ++ [116] ++ (short n ++ entsB l) := (by unfold treeB; rw [hll]; rfl); rw [e]; exact ho⟩, hO2.bel⟩; obtain ⟨ad, cp, hvv, _⟩ := HO2.out.1.shape rfl; subst hvv; clear hO2 HO1 ho hv)
  go_ret
  exact ⟨ad, _, cp, rfl, rfl, HO2.out.1, HO2.out.2⟩

/-- entries of a tree that may be -/
theorem treeErr_ok : ∀ (l : List Ent) (p : ByteArray), treeErr p l = 0 → ∀ (j : Nat) x, l[j]? = some x → (spot (bs x.1)).1 = 0
  | [], _, _, j, x, h => by simp at h
  | y :: r, p, h0, j, x, h => by
    unfold treeErr at h0
    split at h0
    · rename_i h1; omega
    · rename_i h1
      have h1' : (spot (bs y.1)).1 = 0 := by simpa using h1
      split at h0
      · omega
      · split at h0
        · omega
        · cases j with
          | zero => simp at h; rw [← h]; exact h1'
          | succ j => exact treeErr_ok r _ h0 j x (by simpa using h)
end Go.Proofs.Ytdibdcbihleflaa
