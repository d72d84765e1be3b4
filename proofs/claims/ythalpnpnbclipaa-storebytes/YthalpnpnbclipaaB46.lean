import Derived.Test.YthalpnpnbclipaaB40
import Derived.Test.YthalpnpnbclipaaB44
/- What Since tells: the ids from a place on, in their order. -/
namespace Go.Proofs.Ythalpnpnbclipaa
open Go.RowKit Go.Shelf Go.Maps

attribute [local go_sem] Oper.semAt_some

abbrev idE (x : Int) : Array Value := #[.int .u64 x]
/-- where Since begins -/
def firstN (n : Int) (N : Nat) : Nat := if n ≤ 0 then 0 else if (N : Int) ≤ n then N else n.toNat
theorem firstN_le (n : Int) (N : Nat) : firstN n N ≤ N := by unfold firstN; split <;> (try split) <;> omega

end Go.Proofs.Ythalpnpnbclipaa

/- The walks of Blob, Tree and Commit. -/
namespace Go.Proofs.Ythalpnpnbclipaa
open Go.RowKit Go.Maps

attribute [local go_sem] Oper.semAt_some

def isTree : Ob → Bool
  | .tree _ => true
  | _ => false
def isCom : Ob → Bool
  | .com _ => true
  | _ => false
def obT : Ob → TypeId
  | .blob _ => 36
  | .tree _ => 55
  | .com _ => 44
theorem held_iface {O : Nat → Prop} {o : Ob} {v : Value} {W : World} (h : Held O o v W) : ∃ t u, v = .iface t u ∧ t = obT o := by
  have h := h.get.1
  cases o with
  | blob b => obtain ⟨ad, cp, rfl, _⟩ := h; exact ⟨_, _, rfl, rfl⟩
  | tree l => obtain ⟨ad, cp, rfl, _⟩ := h; exact ⟨_, _, rfl, rfl⟩
  | com c => obtain ⟨ad, cp, rfl, _⟩ := h; exact ⟨_, _, rfl, rfl⟩

set_option maxRecDepth 20000 in
set_option maxHeartbeats 4000000 in
theorem sasBlob_any (X : Value) (a : Option Addr) (n c : Nat) (ok : Bool) (e0 E : Int) (h1 : ∀ xT w, (Instr.typeAssert X xT 36 true).run Try.prog w = .ok (.tuple #[.agg #[.slice a n c], .bool ok]) w) (hE : E = if e0 = 0 ∧ ok = false then 170 else e0) (w : World) :
    Calls Try.prog 27 #[X, .int .i64 e0] w fun e w' => e = .returned (.tuple #[.agg #[.slice a n c], .int .i64 E]) ∧ Below w.heap.size w w' := by
  have hk := fun W => kindError_any ok e0 W
  rw [← hE] at hk
  clear hE
  go_enter Try.func27, Try.ntmps27
  go_wp2_with fail
  obtain ⟨W0, hW0⟩ : ∃ W0, W0 = ((w.alloc (.cells #[.slice none 0 0] 36)).alloc (.cells #[.slice a n c] 36)) := ⟨_, rfl⟩
  have HB0 : Hid (Below w.heap.size w W0) := (by rw [hW0]; exact ((Below.refl _ w).alloc (Nat.le_refl _) _).alloc (by simp) _ : Below w.heap.size w W0)
  have hk0 := hk W0.drew
  have b1 : Boxed W0 (w.heap.size + 1) 36 (.slice a n c) := by
    have := Boxed.new (w.alloc (.cells #[.slice none 0 0] 36)) 36 (.slice a n c)
    rw [World.size_alloc] at this
    rw [hW0]; exact this
  have b0 : Boxed W0 w.heap.size 36 (.slice none 0 0) := by rw [hW0]; exact (Boxed.new w _ _).alloc _
  have x1 := b1.cell
  have x0 := b0.cell
  have y0 := b0.frozen
  have z0 := (b0.set (.slice a n c)).cell
  rw [← hW0]
  clear hW0 hk
  go_region_held3 (fun W => W.cell? ⟨w.heap.size + 1, 0, none⟩ = some (.slice a n c) ∧ W.frozen? ⟨w.heap.size, 0, none⟩ = false)
    (first
      | (go_split_ands
         refine ⟨by go_keep, by go_keep⟩)
      | (go_split_ands
         exact ⟨x1, y0⟩))
    ((go_at_call 40; refine hk0.mono ?_; rintro e w' ⟨rfl, rfl⟩))
  go_wp2
  refine bodyPost_ret (v := .tuple #[.agg #[.slice a n c], .int .i64 E]) (by simp [results, Try.results27, go_sem, z0]) rfl ⟨rfl, ?_⟩
  have hBd : Below w.heap.size w W0.drew := ⟨HB0.out.os, HB0.out.tape, HB0.out.output, HB0.out.size, HB0.out.block⟩
  exact hBd.setCell (p := ⟨w.heap.size, 0, none⟩) (Nat.le_refl _) _
set_option maxRecDepth 20000 in
set_option maxHeartbeats 4000000 in
theorem sblob_of (w : World) (s : Value) (i : Int) (e0 E : Int) (Rx : Value → World → Prop) (hg : Calls Try.prog 8 #[s, .int .u64 i] (w.alloc (.cells #[.slice none 0 0] 36)) fun e w' => ∃ X, e = .returned (.tuple #[X, .int .i64 e0]) ∧ Rx X w' ∧ Below (w.alloc (.cells #[.slice none 0 0] 36)).heap.size (w.alloc (.cells #[.slice none 0 0] 36)) w')
    (hX : ∀ X W, Rx X W → ∃ a n c ok, (∀ xT w, (Instr.typeAssert X xT 36 true).run Try.prog w = .ok (.tuple #[.agg #[.slice a n c], .bool ok]) w) ∧ (E = if e0 = 0 ∧ ok = false then 170 else e0)) :
    Calls Try.prog 12 #[s, .int .u64 i] w fun e w' => ∃ a n c X W1, e = .returned (.tuple #[.agg #[.slice a n c], .int .i64 E]) ∧ Rx X W1 ∧ (∃ ok, ∀ xT w, (Instr.typeAssert X xT 36 true).run Try.prog w = .ok (.tuple #[.agg #[.slice a n c], .bool ok]) w) ∧ Below (w.alloc (.cells #[.slice none 0 0] 36)).heap.size (w.alloc (.cells #[.slice none 0 0] 36)) W1 ∧ Below w.heap.size w w' ∧ (∀ k, k ≠ w.heap.size → k < W1.heap.size → w'.heap[k]? = W1.heap[k]?) := by
  have hB0 : Below w.heap.size w (w.alloc (.cells #[.slice none 0 0] 36)) := (Below.refl _ w).alloc (Nat.le_refl _) _
  have HX : Hid (∀ X W, Rx X W → ∃ a n c ok, (∀ xT w, (Instr.typeAssert X xT 36 true).run Try.prog w = .ok (.tuple #[.agg #[.slice a n c], .bool ok]) w) ∧ (E = if e0 = 0 ∧ ok = false then 170 else e0)) := hX
  clear hX
  go_enter Try.func12, Try.ntmps12
  go_wp2_with first
    | (go_at_call 8; refine hg.mono ?_; clear hg; rintro e w0 ⟨X, rfl, hR0, hBg⟩; have HR : Hid (Rx X w0) := hR0; have HBg : Hid (Below (w.alloc (.cells #[.slice none 0 0] 36)).heap.size (w.alloc (.cells #[.slice none 0 0] 36)) w0) := hBg; obtain ⟨a, n, c, ok, hta, hE⟩ := HX.out X w0 hR0; have HTA : Hid (∀ xT w, (Instr.typeAssert X xT 36 true).run Try.prog w = .ok (.tuple #[.agg #[.slice a n c], .bool ok]) w) := hta; have HE : Hid (E = if e0 = 0 ∧ ok = false then 170 else e0) := hE; clear hR0 hBg hta hE)
    | (go_at_call 27; refine (sasBlob_any X a n c ok e0 E HTA.out HE.out _).mono ?_; rintro e w1 ⟨rfl, hB1⟩; have HB : Below (w.alloc (.cells #[.slice none 0 0] 36)).heap.size (w.alloc (.cells #[.slice none 0 0] 36)) w1 := HBg.out.trans (hB1.mono HBg.out.size); have hb : Boxed w1 w.heap.size 36 (.slice none 0 0) := (HB.block w.heap.size (by simp)).trans (World.alloc_heap_new _ _); have cb := hb.cell; have fb := hb.frozen)
  have c2 := (hb.set (.slice a n c)).cell
  refine bodyPost_ret (v := .tuple #[.agg #[.slice a n c], .int .i64 E]) (by simp [results, Try.results12, go_sem, c2]) rfl ⟨a, n, c, X, w0, rfl, HR.out, ⟨ok, HTA.out⟩, HBg.out, (hB0.trans (HB.mono (by simp))).setCell (p := ⟨w.heap.size, 0, none⟩) (Nat.le_refl _) _, fun k hk hl => ?_⟩
  rw [Below.heap_setCell _ _ _ _ (by exact hk)]
  exact hB1.block k hl
theorem sblob_nil (w : World) (i : Int) : Calls Try.prog 12 #[.pointer none, .int .u64 i] w fun e w' => ∃ a n c, e = .returned (.tuple #[.agg #[.slice a n c], .int .i64 1]) ∧ Below w.heap.size w w' := by
  refine (sblob_of w (.pointer none) i 1 1 (fun X _ => X = .nilIface) ((get_nil _ i).mono fun e w' h => ⟨_, h.1, rfl, h.2 ▸ Below.refl _ _⟩) ?_).mono ?_
  · rintro X W rfl
    exact ⟨none, 0, 0, false, nil_blob, rfl⟩
  · rintro e w' ⟨a, n, c, X, W1, he, _, _, _, hB, _⟩
    exact ⟨a, n, c, he, hB⟩
theorem sblob_no (w : World) (s d : Nat) (os : List Ob) (sz : Nat) (cut : Bool) (F : Nat → Prop) (h : IsSt w s d os sz cut F) (i : Int) (h0 : 0 ≤ i) (h1 : i ≤ 18446744073709551615) (o : Ob) (hf : findO os i = some o) (hk : isBlob o = false) :
    Calls Try.prog 12 #[.pointer (some ⟨s, 0, none⟩), .int .u64 i] w fun e w' => ∃ a n c, e = .returned (.tuple #[.agg #[.slice a n c], .int .i64 170]) ∧ Below w.heap.size w w' := by
  refine (sblob_of w (.pointer (some ⟨s, 0, none⟩)) i 0 170 (fun X W => ∃ O, Held O o X W) ((get_there _ s d os sz cut F (h.below ((Below.refl _ w).alloc (Nat.le_refl _) _)) i h0 h1 o hf).mono fun e w' ⟨u, h1, h2, h3⟩ => ⟨u, h1, ⟨_, h2⟩, h3⟩) ?_).mono ?_
  · rintro X W ⟨O, hX⟩
    obtain ⟨t, u, rfl, ht⟩ := held_iface hX
    refine ⟨none, 0, 0, false, no_blob t ?_ u, rfl⟩
    rw [ht]
    cases o <;> first | (cases hk; done) | (show obT _ ≠ _; simp [obT]; done) | (simp only [obT]; decide)
  · rintro e w' ⟨a, n, c, X, W1, he, _, _, _, hB, _⟩
    exact ⟨a, n, c, he, hB⟩
theorem sblob_yes (w : World) (s d : Nat) (os : List Ob) (sz : Nat) (cut : Bool) (F : Nat → Prop) (h : IsSt w s d os sz cut F) (i : Int) (h0 : 0 ≤ i) (h1 : i ≤ 18446744073709551615) (o : Ob) (hf : findO os i = some o) (hk : isBlob o = true) :
    Calls Try.prog 12 #[.pointer (some ⟨s, 0, none⟩), .int .u64 i] w fun e w' => ∃ a n c, e = .returned (.tuple #[.agg #[.slice a n c], .int .i64 0]) ∧ ObS o (.iface 36 (.agg #[.slice a n c])) w' ∧ Below w.heap.size w w' := by
  refine (sblob_of w (.pointer (some ⟨s, 0, none⟩)) i 0 0 (fun X W => Held (Fresh (w.heap.size + 1) W) o X W) ((get_there _ s d os sz cut F (h.below ((Below.refl _ w).alloc (Nat.le_refl _) _)) i h0 h1 o hf).mono fun e w' ⟨u, h1, h2, h3⟩ => ⟨u, h1, by rw [World.size_alloc] at h2; exact h2, h3⟩) ?_).mono ?_
  · rintro X W hX
    cases o <;> first | (cases hk; done) | skip
    obtain ⟨ad, cp, rfl, _⟩ := hX.get.1; exact ⟨ad, _, cp, true, as_blob _, rfl⟩
  · rintro e w' ⟨a, n, c, X, W1, he, hX, ⟨ok, hta⟩, hBW, hB, hsame⟩
    refine ⟨a, n, c, he, ?_, hB⟩
    have hX' := (hX.kept (W' := w') fun k hk => hsame k (by have := hk.1; omega) hk.lt).get
    obtain ⟨t0, u, rfl, ht⟩ := held_iface hX
    have h2 : t0 = 36 := by rw [ht]; cases o <;> first | (cases hk; done) | rfl
    subst h2
    have h3 := hta 0 w
    rw [as_blob] at h3
    cases h3
    exact hX'

set_option maxRecDepth 20000 in
set_option maxHeartbeats 4000000 in
theorem sasTree_any (X : Value) (a : Option Addr) (n c : Nat) (ok : Bool) (e0 E : Int) (h1 : ∀ xT w, (Instr.typeAssert X xT 55 true).run Try.prog w = .ok (.tuple #[.agg #[.slice a n c], .bool ok]) w) (hE : E = if e0 = 0 ∧ ok = false then 170 else e0) (w : World) :
    Calls Try.prog 28 #[X, .int .i64 e0] w fun e w' => e = .returned (.tuple #[.agg #[.slice a n c], .int .i64 E]) ∧ Below w.heap.size w w' := by
  have hk := fun W => kindError_any ok e0 W
  rw [← hE] at hk
  clear hE
  go_enter Try.func28, Try.ntmps28
  go_wp2_with fail
  obtain ⟨W0, hW0⟩ : ∃ W0, W0 = ((w.alloc (.cells #[.slice none 0 0] 55)).alloc (.cells #[.slice a n c] 55)) := ⟨_, rfl⟩
  have HB0 : Hid (Below w.heap.size w W0) := (by rw [hW0]; exact ((Below.refl _ w).alloc (Nat.le_refl _) _).alloc (by simp) _ : Below w.heap.size w W0)
  have hk0 := hk W0.drew
  have b1 : Boxed W0 (w.heap.size + 1) 55 (.slice a n c) := by
    have := Boxed.new (w.alloc (.cells #[.slice none 0 0] 55)) 55 (.slice a n c)
    rw [World.size_alloc] at this
    rw [hW0]; exact this
  have b0 : Boxed W0 w.heap.size 55 (.slice none 0 0) := by rw [hW0]; exact (Boxed.new w _ _).alloc _
  have x1 := b1.cell
  have x0 := b0.cell
  have y0 := b0.frozen
  have z0 := (b0.set (.slice a n c)).cell
  rw [← hW0]
  clear hW0 hk
  go_region_held3 (fun W => W.cell? ⟨w.heap.size + 1, 0, none⟩ = some (.slice a n c) ∧ W.frozen? ⟨w.heap.size, 0, none⟩ = false)
    (first
      | (go_split_ands
         refine ⟨by go_keep, by go_keep⟩)
      | (go_split_ands
         exact ⟨x1, y0⟩))
    ((go_at_call 40; refine hk0.mono ?_; rintro e w' ⟨rfl, rfl⟩))
  go_wp2
  refine bodyPost_ret (v := .tuple #[.agg #[.slice a n c], .int .i64 E]) (by simp [results, Try.results28, go_sem, z0]) rfl ⟨rfl, ?_⟩
  have hBd : Below w.heap.size w W0.drew := ⟨HB0.out.os, HB0.out.tape, HB0.out.output, HB0.out.size, HB0.out.block⟩
  exact hBd.setCell (p := ⟨w.heap.size, 0, none⟩) (Nat.le_refl _) _
set_option maxRecDepth 20000 in
set_option maxHeartbeats 4000000 in
theorem stree_of (w : World) (s : Value) (i : Int) (e0 E : Int) (Rx : Value → World → Prop) (hg : Calls Try.prog 8 #[s, .int .u64 i] (w.alloc (.cells #[.slice none 0 0] 55)) fun e w' => ∃ X, e = .returned (.tuple #[X, .int .i64 e0]) ∧ Rx X w' ∧ Below (w.alloc (.cells #[.slice none 0 0] 55)).heap.size (w.alloc (.cells #[.slice none 0 0] 55)) w')
    (hX : ∀ X W, Rx X W → ∃ a n c ok, (∀ xT w, (Instr.typeAssert X xT 55 true).run Try.prog w = .ok (.tuple #[.agg #[.slice a n c], .bool ok]) w) ∧ (E = if e0 = 0 ∧ ok = false then 170 else e0)) :
    Calls Try.prog 13 #[s, .int .u64 i] w fun e w' => ∃ a n c X W1, e = .returned (.tuple #[.agg #[.slice a n c], .int .i64 E]) ∧ Rx X W1 ∧ (∃ ok, ∀ xT w, (Instr.typeAssert X xT 55 true).run Try.prog w = .ok (.tuple #[.agg #[.slice a n c], .bool ok]) w) ∧ Below (w.alloc (.cells #[.slice none 0 0] 55)).heap.size (w.alloc (.cells #[.slice none 0 0] 55)) W1 ∧ Below w.heap.size w w' ∧ (∀ k, k ≠ w.heap.size → k < W1.heap.size → w'.heap[k]? = W1.heap[k]?) := by
  have hB0 : Below w.heap.size w (w.alloc (.cells #[.slice none 0 0] 55)) := (Below.refl _ w).alloc (Nat.le_refl _) _
  have HX : Hid (∀ X W, Rx X W → ∃ a n c ok, (∀ xT w, (Instr.typeAssert X xT 55 true).run Try.prog w = .ok (.tuple #[.agg #[.slice a n c], .bool ok]) w) ∧ (E = if e0 = 0 ∧ ok = false then 170 else e0)) := hX
  clear hX
  go_enter Try.func13, Try.ntmps13
  go_wp2_with first
    | (go_at_call 8; refine hg.mono ?_; clear hg; rintro e w0 ⟨X, rfl, hR0, hBg⟩; have HR : Hid (Rx X w0) := hR0; have HBg : Hid (Below (w.alloc (.cells #[.slice none 0 0] 55)).heap.size (w.alloc (.cells #[.slice none 0 0] 55)) w0) := hBg; obtain ⟨a, n, c, ok, hta, hE⟩ := HX.out X w0 hR0; have HTA : Hid (∀ xT w, (Instr.typeAssert X xT 55 true).run Try.prog w = .ok (.tuple #[.agg #[.slice a n c], .bool ok]) w) := hta; have HE : Hid (E = if e0 = 0 ∧ ok = false then 170 else e0) := hE; clear hR0 hBg hta hE)
    | (go_at_call 28; refine (sasTree_any X a n c ok e0 E HTA.out HE.out _).mono ?_; rintro e w1 ⟨rfl, hB1⟩; have HB : Below (w.alloc (.cells #[.slice none 0 0] 55)).heap.size (w.alloc (.cells #[.slice none 0 0] 55)) w1 := HBg.out.trans (hB1.mono HBg.out.size); have hb : Boxed w1 w.heap.size 55 (.slice none 0 0) := (HB.block w.heap.size (by simp)).trans (World.alloc_heap_new _ _); have cb := hb.cell; have fb := hb.frozen)
  have c2 := (hb.set (.slice a n c)).cell
  refine bodyPost_ret (v := .tuple #[.agg #[.slice a n c], .int .i64 E]) (by simp [results, Try.results13, go_sem, c2]) rfl ⟨a, n, c, X, w0, rfl, HR.out, ⟨ok, HTA.out⟩, HBg.out, (hB0.trans (HB.mono (by simp))).setCell (p := ⟨w.heap.size, 0, none⟩) (Nat.le_refl _) _, fun k hk hl => ?_⟩
  rw [Below.heap_setCell _ _ _ _ (by exact hk)]
  exact hB1.block k hl
theorem stree_nil (w : World) (i : Int) : Calls Try.prog 13 #[.pointer none, .int .u64 i] w fun e w' => ∃ a n c, e = .returned (.tuple #[.agg #[.slice a n c], .int .i64 1]) ∧ Below w.heap.size w w' := by
  refine (stree_of w (.pointer none) i 1 1 (fun X _ => X = .nilIface) ((get_nil _ i).mono fun e w' h => ⟨_, h.1, rfl, h.2 ▸ Below.refl _ _⟩) ?_).mono ?_
  · rintro X W rfl
    exact ⟨none, 0, 0, false, nil_tree, rfl⟩
  · rintro e w' ⟨a, n, c, X, W1, he, _, _, _, hB, _⟩
    exact ⟨a, n, c, he, hB⟩
theorem stree_no (w : World) (s d : Nat) (os : List Ob) (sz : Nat) (cut : Bool) (F : Nat → Prop) (h : IsSt w s d os sz cut F) (i : Int) (h0 : 0 ≤ i) (h1 : i ≤ 18446744073709551615) (o : Ob) (hf : findO os i = some o) (hk : isTree o = false) :
    Calls Try.prog 13 #[.pointer (some ⟨s, 0, none⟩), .int .u64 i] w fun e w' => ∃ a n c, e = .returned (.tuple #[.agg #[.slice a n c], .int .i64 170]) ∧ Below w.heap.size w w' := by
  refine (stree_of w (.pointer (some ⟨s, 0, none⟩)) i 0 170 (fun X W => ∃ O, Held O o X W) ((get_there _ s d os sz cut F (h.below ((Below.refl _ w).alloc (Nat.le_refl _) _)) i h0 h1 o hf).mono fun e w' ⟨u, h1, h2, h3⟩ => ⟨u, h1, ⟨_, h2⟩, h3⟩) ?_).mono ?_
  · rintro X W ⟨O, hX⟩
    obtain ⟨t, u, rfl, ht⟩ := held_iface hX
    refine ⟨none, 0, 0, false, no_tree t ?_ u, rfl⟩
    rw [ht]
    cases o <;> first | (cases hk; done) | (show obT _ ≠ _; simp [obT]; done) | (simp only [obT]; decide)
  · rintro e w' ⟨a, n, c, X, W1, he, _, _, _, hB, _⟩
    exact ⟨a, n, c, he, hB⟩
theorem stree_yes (w : World) (s d : Nat) (os : List Ob) (sz : Nat) (cut : Bool) (F : Nat → Prop) (h : IsSt w s d os sz cut F) (i : Int) (h0 : 0 ≤ i) (h1 : i ≤ 18446744073709551615) (o : Ob) (hf : findO os i = some o) (hk : isTree o = true) :
    Calls Try.prog 13 #[.pointer (some ⟨s, 0, none⟩), .int .u64 i] w fun e w' => ∃ a n c, e = .returned (.tuple #[.agg #[.slice a n c], .int .i64 0]) ∧ ObS o (.iface 55 (.agg #[.slice a n c])) w' ∧ Below w.heap.size w w' := by
  refine (stree_of w (.pointer (some ⟨s, 0, none⟩)) i 0 0 (fun X W => Held (Fresh (w.heap.size + 1) W) o X W) ((get_there _ s d os sz cut F (h.below ((Below.refl _ w).alloc (Nat.le_refl _) _)) i h0 h1 o hf).mono fun e w' ⟨u, h1, h2, h3⟩ => ⟨u, h1, by rw [World.size_alloc] at h2; exact h2, h3⟩) ?_).mono ?_
  · rintro X W hX
    cases o <;> first | (cases hk; done) | skip
    obtain ⟨ad, cp, rfl, _⟩ := hX.get.1; exact ⟨ad, _, cp, true, as_tree _, rfl⟩
  · rintro e w' ⟨a, n, c, X, W1, he, hX, ⟨ok, hta⟩, hBW, hB, hsame⟩
    refine ⟨a, n, c, he, ?_, hB⟩
    have hX' := (hX.kept (W' := w') fun k hk => hsame k (by have := hk.1; omega) hk.lt).get
    obtain ⟨t0, u, rfl, ht⟩ := held_iface hX
    have h2 : t0 = 55 := by rw [ht]; cases o <;> first | (cases hk; done) | rfl
    subst h2
    have h3 := hta 0 w
    rw [as_tree] at h3
    cases h3
    exact hX'
end Go.Proofs.Ythalpnpnbclipaa
