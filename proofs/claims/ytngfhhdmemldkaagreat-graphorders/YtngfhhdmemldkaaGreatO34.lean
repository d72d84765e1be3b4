import Derived.Test.YtngfhhdmemldkaaGreatO29
import Derived.Test.YtngfhhdmemldkaaGreatO32
import Derived.Test.YtngfhhdmemldkaaGreatO33
/- What Since tells: the ids from a place on, in their order. -/
namespace Go.Proofs.YtngfhhdmemldkaaGreat
open Go.RowKit Go.Shelf Go.Maps

attribute [local go_sem] Oper.semAt_some

abbrev idE (x : Int) : Array Value := #[.int .u64 x]
/-- where Since begins -/
def firstN (n : Int) (N : Nat) : Nat := if n ≤ 0 then 0 else if (N : Int) ≤ n then N else n.toNat
theorem firstN_le (n : Int) (N : Nat) : firstN n N ≤ N := by unfold firstN; split <;> (try split) <;> omega

end Go.Proofs.YtngfhhdmemldkaaGreat

/- The walks of Blob, Tree and Commit. -/
namespace Go.Proofs.YtngfhhdmemldkaaGreat
open Go.RowKit Go.Maps

attribute [local go_sem] Oper.semAt_some

def isTree : Ob → Bool
  | .tree _ => true
  | _ => false
def isCom : Ob → Bool
  | .com _ => true
  | _ => false
def obT : Ob → TypeId
  | .blob _ => 75
  | .tree _ => 112
  | .com _ => 58
theorem held_iface {O : Nat → Prop} {o : Ob} {v : Value} {W : World} (h : Held O o v W) : ∃ t u, v = .iface t u ∧ t = obT o := by
  have h := h.get.1
  cases o with
  | blob b => obtain ⟨ad, cp, rfl, _⟩ := h; exact ⟨_, _, rfl, rfl⟩
  | tree l => obtain ⟨ad, cp, rfl, _⟩ := h; exact ⟨_, _, rfl, rfl⟩
  | com c => obtain ⟨ad, cp, rfl, _⟩ := h; exact ⟨_, _, rfl, rfl⟩

set_option maxRecDepth 20000 in
set_option maxHeartbeats 4000000 in
theorem sasBlob_any (X : Value) (a : Option Addr) (n c : Nat) (ok : Bool) (e0 E : Int) (h1 : ∀ xT w, (Instr.typeAssert X xT 75 true).run Tryz.prog w = .ok (.tuple #[.agg #[.slice a n c], .bool ok]) w) (hE : E = if e0 = 0 ∧ ok = false then 170 else e0) (w : World) :
    Calls Tryz.prog 100 #[X, .int .i64 e0] w fun e w' => e = .returned (.tuple #[.agg #[.slice a n c], .int .i64 E]) ∧ Below w.heap.size w w' := by
  have hk := fun W => kindError_any ok e0 W
  rw [← hE] at hk
  clear hE
  go_enter Tryz.func100, Tryz.ntmps100
  go_wp2_with fail
  obtain ⟨W0, hW0⟩ : ∃ W0, W0 = ((w.alloc (.cells #[.slice none 0 0] 75)).alloc (.cells #[.slice a n c] 75)) := ⟨_, rfl⟩
  have HB0 : Hid (Below w.heap.size w W0) := (by rw [hW0]; exact ((Below.refl _ w).alloc (Nat.le_refl _) _).alloc (by simp) _ : Below w.heap.size w W0)
  have hk0 := hk W0.drew
  have b1 : Boxed W0 (w.heap.size + 1) 75 (.slice a n c) := by
    have := Boxed.new (w.alloc (.cells #[.slice none 0 0] 75)) 75 (.slice a n c)
    rw [World.size_alloc] at this
    rw [hW0]; exact this
  have b0 : Boxed W0 w.heap.size 75 (.slice none 0 0) := by rw [hW0]; exact (Boxed.new w _ _).alloc _
  have x1 := b1.cell
  have x0 := b0.cell
  have y0 := b0.frozen
  have z0 := (b0.set (.slice a n c)).cell
  rw [← hW0]
  clear hW0 hk
  go_region_held3 (fun W => W.cell? ⟨w.heap.size + 1, 0, none⟩ = some (.slice a n c) ∧ W.frozen? ⟨w.heap.size, 0, none⟩ = false)
    (first
      | (go_split_ands
         refine ⟨by go_keep, by go_keep⟩)
      | (go_split_ands
         exact ⟨x1, y0⟩))
    ((go_at_call 56; refine hk0.mono ?_; rintro e w' ⟨rfl, rfl⟩))
  go_wp2
  refine bodyPost_ret (v := .tuple #[.agg #[.slice a n c], .int .i64 E]) (by simp [results, Tryz.results100, go_sem, z0]) rfl ⟨rfl, ?_⟩
  have hBd : Below w.heap.size w W0.drew := ⟨HB0.out.os, HB0.out.tape, HB0.out.output, HB0.out.size, HB0.out.block⟩
  exact hBd.setCell (p := ⟨w.heap.size, 0, none⟩) (Nat.le_refl _) _
set_option maxRecDepth 20000 in
set_option maxHeartbeats 4000000 in
theorem sblob_of (w : World) (s : Value) (i : Int) (e0 E : Int) (Rx : Value → World → Prop) (hg : Calls Tryz.prog 40 #[s, .int .u64 i] (w.alloc (.cells #[.slice none 0 0] 75)) fun e w' => ∃ X, e = .returned (.tuple #[X, .int .i64 e0]) ∧ Rx X w' ∧ Below (w.alloc (.cells #[.slice none 0 0] 75)).heap.size (w.alloc (.cells #[.slice none 0 0] 75)) w')
    (hX : ∀ X W, Rx X W → ∃ a n c ok, (∀ xT w, (Instr.typeAssert X xT 75 true).run Tryz.prog w = .ok (.tuple #[.agg #[.slice a n c], .bool ok]) w) ∧ (E = if e0 = 0 ∧ ok = false then 170 else e0)) :
    Calls Tryz.prog 73 #[s, .int .u64 i] w fun e w' => ∃ a n c X W1, e = .returned (.tuple #[.agg #[.slice a n c], .int .i64 E]) ∧ Rx X W1 ∧ (∃ ok, ∀ xT w, (Instr.typeAssert X xT 75 true).run Tryz.prog w = .ok (.tuple #[.agg #[.slice a n c], .bool ok]) w) ∧ Below (w.alloc (.cells #[.slice none 0 0] 75)).heap.size (w.alloc (.cells #[.slice none 0 0] 75)) W1 ∧ Below w.heap.size w w' ∧ (∀ k, k ≠ w.heap.size → k < W1.heap.size → w'.heap[k]? = W1.heap[k]?) := by
  have hB0 : Below w.heap.size w (w.alloc (.cells #[.slice none 0 0] 75)) := (Below.refl _ w).alloc (Nat.le_refl _) _
  have HX : Hid (∀ X W, Rx X W → ∃ a n c ok, (∀ xT w, (Instr.typeAssert X xT 75 true).run Tryz.prog w = .ok (.tuple #[.agg #[.slice a n c], .bool ok]) w) ∧ (E = if e0 = 0 ∧ ok = false then 170 else e0)) := hX
  clear hX
  go_enter Tryz.func73, Tryz.ntmps73
  go_wp2_with first
    | (go_at_call 40; refine hg.mono ?_; clear hg; rintro e w0 ⟨X, rfl, hR0, hBg⟩; have HR : Hid (Rx X w0) := hR0; have HBg : Hid (Below (w.alloc (.cells #[.slice none 0 0] 75)).heap.size (w.alloc (.cells #[.slice none 0 0] 75)) w0) := hBg; obtain ⟨a, n, c, ok, hta, hE⟩ := HX.out X w0 hR0; have HTA : Hid (∀ xT w, (Instr.typeAssert X xT 75 true).run Tryz.prog w = .ok (.tuple #[.agg #[.slice a n c], .bool ok]) w) := hta; have HE : Hid (E = if e0 = 0 ∧ ok = false then 170 else e0) := hE; clear hR0 hBg hta hE)
    | (go_at_call 100; refine (sasBlob_any X a n c ok e0 E HTA.out HE.out _).mono ?_; rintro e w1 ⟨rfl, hB1⟩; have HB : Below (w.alloc (.cells #[.slice none 0 0] 75)).heap.size (w.alloc (.cells #[.slice none 0 0] 75)) w1 := HBg.out.trans (hB1.mono HBg.out.size); have hb : Boxed w1 w.heap.size 75 (.slice none 0 0) := (HB.block w.heap.size (by simp)).trans (World.alloc_heap_new _ _); have cb := hb.cell; have fb := hb.frozen)
  have c2 := (hb.set (.slice a n c)).cell
  refine bodyPost_ret (v := .tuple #[.agg #[.slice a n c], .int .i64 E]) (by simp [results, Tryz.results73, go_sem, c2]) rfl ⟨a, n, c, X, w0, rfl, HR.out, ⟨ok, HTA.out⟩, HBg.out, (hB0.trans (HB.mono (by simp))).setCell (p := ⟨w.heap.size, 0, none⟩) (Nat.le_refl _) _, fun k hk hl => ?_⟩
  rw [Below.heap_setCell _ _ _ _ (by exact hk)]
  exact hB1.block k hl
theorem sblob_nil (w : World) (i : Int) : Calls Tryz.prog 73 #[.pointer none, .int .u64 i] w fun e w' => ∃ a n c, e = .returned (.tuple #[.agg #[.slice a n c], .int .i64 1]) ∧ Below w.heap.size w w' := by
  refine (sblob_of w (.pointer none) i 1 1 (fun X _ => X = .nilIface) ((get_nil _ i).mono fun e w' h => ⟨_, h.1, rfl, h.2 ▸ Below.refl _ _⟩) ?_).mono ?_
  · rintro X W rfl
    exact ⟨none, 0, 0, false, nil_blob, rfl⟩
  · rintro e w' ⟨a, n, c, X, W1, he, _, _, _, hB, _⟩
    exact ⟨a, n, c, he, hB⟩
theorem sblob_no (w : World) (s d : Nat) (os : List Ob) (sz : Nat) (cut : Bool) (F : Nat → Prop) (h : IsSt w s d os sz cut F) (i : Int) (h0 : 0 ≤ i) (h1 : i ≤ 18446744073709551615) (o : Ob) (hf : findO os i = some o) (hk : isBlob o = false) :
    Calls Tryz.prog 73 #[.pointer (some ⟨s, 0, none⟩), .int .u64 i] w fun e w' => ∃ a n c, e = .returned (.tuple #[.agg #[.slice a n c], .int .i64 170]) ∧ Below w.heap.size w w' := by
  refine (sblob_of w (.pointer (some ⟨s, 0, none⟩)) i 0 170 (fun X W => ∃ O, Held O o X W) ((get_there _ s d os sz cut F (h.below ((Below.refl _ w).alloc (Nat.le_refl _) _)) i h0 h1 o hf).mono fun e w' ⟨u, h1, h2, h3⟩ => ⟨u, h1, ⟨_, h2⟩, h3⟩) ?_).mono ?_
  · rintro X W ⟨O, hX⟩
    obtain ⟨t, u, rfl, ht⟩ := held_iface hX
    refine ⟨none, 0, 0, false, no_blob t ?_ u, rfl⟩
    rw [ht]
    cases o <;> first | (cases hk; done) | (show obT _ ≠ _; simp [obT]; done) | (simp only [obT]; decide)
  · rintro e w' ⟨a, n, c, X, W1, he, _, _, _, hB, _⟩
    exact ⟨a, n, c, he, hB⟩
theorem sblob_yes (w : World) (s d : Nat) (os : List Ob) (sz : Nat) (cut : Bool) (F : Nat → Prop) (h : IsSt w s d os sz cut F) (i : Int) (h0 : 0 ≤ i) (h1 : i ≤ 18446744073709551615) (o : Ob) (hf : findO os i = some o) (hk : isBlob o = true) :
    Calls Tryz.prog 73 #[.pointer (some ⟨s, 0, none⟩), .int .u64 i] w fun e w' => ∃ a n c, e = .returned (.tuple #[.agg #[.slice a n c], .int .i64 0]) ∧ ObS o (.iface 75 (.agg #[.slice a n c])) w' ∧ Below w.heap.size w w' := by
  refine (sblob_of w (.pointer (some ⟨s, 0, none⟩)) i 0 0 (fun X W => Held (Fresh (w.heap.size + 1) W) o X W) ((get_there _ s d os sz cut F (h.below ((Below.refl _ w).alloc (Nat.le_refl _) _)) i h0 h1 o hf).mono fun e w' ⟨u, h1, h2, h3⟩ => ⟨u, h1, by rw [World.size_alloc] at h2; exact h2, h3⟩) ?_).mono ?_
  · rintro X W hX
    cases o <;> first | (cases hk; done) | skip
    obtain ⟨ad, cp, rfl, _⟩ := hX.get.1; exact ⟨ad, _, cp, true, as_blob _, rfl⟩
  · rintro e w' ⟨a, n, c, X, W1, he, hX, ⟨ok, hta⟩, hBW, hB, hsame⟩
    refine ⟨a, n, c, he, ?_, hB⟩
    have hX' := (hX.kept (W' := w') fun k hk => hsame k (by have := hk.1; omega) hk.lt).get
    obtain ⟨t0, u, rfl, ht⟩ := held_iface hX
    have h2 : t0 = 75 := by rw [ht]; cases o <;> first | (cases hk; done) | rfl
    subst h2
    have h3 := hta 0 w
    rw [as_blob] at h3
    cases h3
    exact hX'

set_option maxRecDepth 20000 in
set_option maxHeartbeats 4000000 in
theorem sasTree_any (X : Value) (a : Option Addr) (n c : Nat) (ok : Bool) (e0 E : Int) (h1 : ∀ xT w, (Instr.typeAssert X xT 112 true).run Tryz.prog w = .ok (.tuple #[.agg #[.slice a n c], .bool ok]) w) (hE : E = if e0 = 0 ∧ ok = false then 170 else e0) (w : World) :
    Calls Tryz.prog 128 #[X, .int .i64 e0] w fun e w' => e = .returned (.tuple #[.agg #[.slice a n c], .int .i64 E]) ∧ Below w.heap.size w w' := by
  have hk := fun W => kindError_any ok e0 W
  rw [← hE] at hk
  clear hE
  go_enter Tryz.func128, Tryz.ntmps128
  go_wp2_with fail
  obtain ⟨W0, hW0⟩ : ∃ W0, W0 = ((w.alloc (.cells #[.slice none 0 0] 112)).alloc (.cells #[.slice a n c] 112)) := ⟨_, rfl⟩
  have HB0 : Hid (Below w.heap.size w W0) := (by rw [hW0]; exact ((Below.refl _ w).alloc (Nat.le_refl _) _).alloc (by simp) _ : Below w.heap.size w W0)
  have hk0 := hk W0.drew
  have b1 : Boxed W0 (w.heap.size + 1) 112 (.slice a n c) := by
    have := Boxed.new (w.alloc (.cells #[.slice none 0 0] 112)) 112 (.slice a n c)
    rw [World.size_alloc] at this
    rw [hW0]; exact this
  have b0 : Boxed W0 w.heap.size 112 (.slice none 0 0) := by rw [hW0]; exact (Boxed.new w _ _).alloc _
  have x1 := b1.cell
  have x0 := b0.cell
  have y0 := b0.frozen
  have z0 := (b0.set (.slice a n c)).cell
  rw [← hW0]
  clear hW0 hk
  go_region_held3 (fun W => W.cell? ⟨w.heap.size + 1, 0, none⟩ = some (.slice a n c) ∧ W.frozen? ⟨w.heap.size, 0, none⟩ = false)
    (first
      | (go_split_ands
         refine ⟨by go_keep, by go_keep⟩)
      | (go_split_ands
         exact ⟨x1, y0⟩))
    ((go_at_call 56; refine hk0.mono ?_; rintro e w' ⟨rfl, rfl⟩))
  go_wp2
  refine bodyPost_ret (v := .tuple #[.agg #[.slice a n c], .int .i64 E]) (by simp [results, Tryz.results128, go_sem, z0]) rfl ⟨rfl, ?_⟩
  have hBd : Below w.heap.size w W0.drew := ⟨HB0.out.os, HB0.out.tape, HB0.out.output, HB0.out.size, HB0.out.block⟩
  exact hBd.setCell (p := ⟨w.heap.size, 0, none⟩) (Nat.le_refl _) _
set_option maxRecDepth 20000 in
set_option maxHeartbeats 4000000 in
theorem stree_of (w : World) (s : Value) (i : Int) (e0 E : Int) (Rx : Value → World → Prop) (hg : Calls Tryz.prog 40 #[s, .int .u64 i] (w.alloc (.cells #[.slice none 0 0] 112)) fun e w' => ∃ X, e = .returned (.tuple #[X, .int .i64 e0]) ∧ Rx X w' ∧ Below (w.alloc (.cells #[.slice none 0 0] 112)).heap.size (w.alloc (.cells #[.slice none 0 0] 112)) w')
    (hX : ∀ X W, Rx X W → ∃ a n c ok, (∀ xT w, (Instr.typeAssert X xT 112 true).run Tryz.prog w = .ok (.tuple #[.agg #[.slice a n c], .bool ok]) w) ∧ (E = if e0 = 0 ∧ ok = false then 170 else e0)) :
    Calls Tryz.prog 98 #[s, .int .u64 i] w fun e w' => ∃ a n c X W1, e = .returned (.tuple #[.agg #[.slice a n c], .int .i64 E]) ∧ Rx X W1 ∧ (∃ ok, ∀ xT w, (Instr.typeAssert X xT 112 true).run Tryz.prog w = .ok (.tuple #[.agg #[.slice a n c], .bool ok]) w) ∧ Below (w.alloc (.cells #[.slice none 0 0] 112)).heap.size (w.alloc (.cells #[.slice none 0 0] 112)) W1 ∧ Below w.heap.size w w' ∧ (∀ k, k ≠ w.heap.size → k < W1.heap.size → w'.heap[k]? = W1.heap[k]?) := by
  have hB0 : Below w.heap.size w (w.alloc (.cells #[.slice none 0 0] 112)) := (Below.refl _ w).alloc (Nat.le_refl _) _
  have HX : Hid (∀ X W, Rx X W → ∃ a n c ok, (∀ xT w, (Instr.typeAssert X xT 112 true).run Tryz.prog w = .ok (.tuple #[.agg #[.slice a n c], .bool ok]) w) ∧ (E = if e0 = 0 ∧ ok = false then 170 else e0)) := hX
  clear hX
  go_enter Tryz.func98, Tryz.ntmps98
  go_wp2_with first
    | (go_at_call 40; refine hg.mono ?_; clear hg; rintro e w0 ⟨X, rfl, hR0, hBg⟩; have HR : Hid (Rx X w0) := hR0; have HBg : Hid (Below (w.alloc (.cells #[.slice none 0 0] 112)).heap.size (w.alloc (.cells #[.slice none 0 0] 112)) w0) := hBg; obtain ⟨a, n, c, ok, hta, hE⟩ := HX.out X w0 hR0; have HTA : Hid (∀ xT w, (Instr.typeAssert X xT 112 true).run Tryz.prog w = .ok (.tuple #[.agg #[.slice a n c], .bool ok]) w) := hta; have HE : Hid (E = if e0 = 0 ∧ ok = false then 170 else e0) := hE; clear hR0 hBg hta hE)
    | (go_at_call 128; refine (sasTree_any X a n c ok e0 E HTA.out HE.out _).mono ?_; rintro e w1 ⟨rfl, hB1⟩; have HB : Below (w.alloc (.cells #[.slice none 0 0] 112)).heap.size (w.alloc (.cells #[.slice none 0 0] 112)) w1 := HBg.out.trans (hB1.mono HBg.out.size); have hb : Boxed w1 w.heap.size 112 (.slice none 0 0) := (HB.block w.heap.size (by simp)).trans (World.alloc_heap_new _ _); have cb := hb.cell; have fb := hb.frozen)
  have c2 := (hb.set (.slice a n c)).cell
  refine bodyPost_ret (v := .tuple #[.agg #[.slice a n c], .int .i64 E]) (by simp [results, Tryz.results98, go_sem, c2]) rfl ⟨a, n, c, X, w0, rfl, HR.out, ⟨ok, HTA.out⟩, HBg.out, (hB0.trans (HB.mono (by simp))).setCell (p := ⟨w.heap.size, 0, none⟩) (Nat.le_refl _) _, fun k hk hl => ?_⟩
  rw [Below.heap_setCell _ _ _ _ (by exact hk)]
  exact hB1.block k hl
theorem stree_nil (w : World) (i : Int) : Calls Tryz.prog 98 #[.pointer none, .int .u64 i] w fun e w' => ∃ a n c, e = .returned (.tuple #[.agg #[.slice a n c], .int .i64 1]) ∧ Below w.heap.size w w' := by
  refine (stree_of w (.pointer none) i 1 1 (fun X _ => X = .nilIface) ((get_nil _ i).mono fun e w' h => ⟨_, h.1, rfl, h.2 ▸ Below.refl _ _⟩) ?_).mono ?_
  · rintro X W rfl
    exact ⟨none, 0, 0, false, nil_tree, rfl⟩
  · rintro e w' ⟨a, n, c, X, W1, he, _, _, _, hB, _⟩
    exact ⟨a, n, c, he, hB⟩
theorem stree_no (w : World) (s d : Nat) (os : List Ob) (sz : Nat) (cut : Bool) (F : Nat → Prop) (h : IsSt w s d os sz cut F) (i : Int) (h0 : 0 ≤ i) (h1 : i ≤ 18446744073709551615) (o : Ob) (hf : findO os i = some o) (hk : isTree o = false) :
    Calls Tryz.prog 98 #[.pointer (some ⟨s, 0, none⟩), .int .u64 i] w fun e w' => ∃ a n c, e = .returned (.tuple #[.agg #[.slice a n c], .int .i64 170]) ∧ Below w.heap.size w w' := by
  refine (stree_of w (.pointer (some ⟨s, 0, none⟩)) i 0 170 (fun X W => ∃ O, Held O o X W) ((get_there _ s d os sz cut F (h.below ((Below.refl _ w).alloc (Nat.le_refl _) _)) i h0 h1 o hf).mono fun e w' ⟨u, h1, h2, h3⟩ => ⟨u, h1, ⟨_, h2⟩, h3⟩) ?_).mono ?_
  · rintro X W ⟨O, hX⟩
    obtain ⟨t, u, rfl, ht⟩ := held_iface hX
    refine ⟨none, 0, 0, false, no_tree t ?_ u, rfl⟩
    rw [ht]
    cases o <;> first | (cases hk; done) | (show obT _ ≠ _; simp [obT]; done) | (simp only [obT]; decide)
  · rintro e w' ⟨a, n, c, X, W1, he, _, _, _, hB, _⟩
    exact ⟨a, n, c, he, hB⟩
theorem stree_yes (w : World) (s d : Nat) (os : List Ob) (sz : Nat) (cut : Bool) (F : Nat → Prop) (h : IsSt w s d os sz cut F) (i : Int) (h0 : 0 ≤ i) (h1 : i ≤ 18446744073709551615) (o : Ob) (hf : findO os i = some o) (hk : isTree o = true) :
    Calls Tryz.prog 98 #[.pointer (some ⟨s, 0, none⟩), .int .u64 i] w fun e w' => ∃ a n c, e = .returned (.tuple #[.agg #[.slice a n c], .int .i64 0]) ∧ ObS o (.iface 112 (.agg #[.slice a n c])) w' ∧ Below w.heap.size w w' := by
  refine (stree_of w (.pointer (some ⟨s, 0, none⟩)) i 0 0 (fun X W => Held (Fresh (w.heap.size + 1) W) o X W) ((get_there _ s d os sz cut F (h.below ((Below.refl _ w).alloc (Nat.le_refl _) _)) i h0 h1 o hf).mono fun e w' ⟨u, h1, h2, h3⟩ => ⟨u, h1, by rw [World.size_alloc] at h2; exact h2, h3⟩) ?_).mono ?_
  · rintro X W hX
    cases o <;> first | (cases hk; done) | skip
    obtain ⟨ad, cp, rfl, _⟩ := hX.get.1; exact ⟨ad, _, cp, true, as_tree _, rfl⟩
  · rintro e w' ⟨a, n, c, X, W1, he, hX, ⟨ok, hta⟩, hBW, hB, hsame⟩
    refine ⟨a, n, c, he, ?_, hB⟩
    have hX' := (hX.kept (W' := w') fun k hk => hsame k (by have := hk.1; omega) hk.lt).get
    obtain ⟨t0, u, rfl, ht⟩ := held_iface hX
    have h2 : t0 = 112 := by rw [ht]; cases o <;> first | (cases hk; done) | rfl
    subst h2
    have h3 := hta 0 w
    rw [as_tree] at h3
    cases h3
    exact hX'
end Go.Proofs.YtngfhhdmemldkaaGreat

/- A store on a disk that is not cut and has just its records. -/
namespace Go.Proofs.YtngfhhdmemldkaaGreat
open Go.RowKit Go.Shelf Go.Maps

attribute [local go_sem] Oper.semAt_some

theorem objNm_name : nameB objNm.data.toList = true := by decide
theorem objNm_size : objNm.size ≤ maxLen := by simp [objNm, ByteArray.size, maxLen]

/-- objects that come back from their bytes, each once -/
def Pure (os : List Ob) : Prop := (∀ o ∈ os, decG (obB o) = some o) ∧ (oids os).Nodup
theorem Pure.nil : Pure [] := ⟨by simp, by simp [oids]⟩
theorem Pure.snoc {os : List Ob} {o : Ob} (h : Pure os) (hd : decG (obB o) = some o) (hf : findO os (oid o) = none) : Pure (os ++ [o]) := by
  refine ⟨fun p hp => ?_, ?_⟩
  · rcases List.mem_append.1 hp with hp | hp
    · exact h.1 p hp
    · simp at hp; subst hp; exact hd
  · have := findO_none hf
    unfold oids at this ⊢
    rw [List.map_append, List.nodup_append]
    refine ⟨h.2, by simp, ?_⟩
    intro a ha b hb
    simp at hb
    subst hb
    intro e
    subst e
    exact this ha
theorem Pure.load {os : List Ob} (h : Pure os) : loadG (os.map obB) [] = some os := by
  have key : ∀ (b a : List Ob), Pure (a ++ b) → loadG (b.map obB) a = some (a ++ b) := by
    intro b
    induction b with
    | nil => intro a _; simp [loadG]
    | cons o b ih =>
      intro a ha
      simp only [List.map_cons, loadG]
      rw [ha.1 o (by simp)]
      have hf : findO a (oid o) = none := by
        unfold findO
        rw [List.find?_eq_none]
        intro p hp he
        have hn := ha.2
        unfold oids at hn
        rw [List.map_append, List.nodup_append] at hn
        exact hn.2.2 (oid p) (List.mem_map_of_mem hp) (oid o) (by simp) (by simpa using he)
      simp only [hf, Option.isSome_none, Bool.false_eq_true, if_false]
      have := ih (a ++ [o]) (by simpa using ha)
      simpa using this
  simpa using key os [] (by simpa using h)
theorem blob_pure (b : List UInt8) (h : b.length ≤ 4096) : obErr (.blob b) = 0 ∧ decG (obB (.blob b)) = some (.blob b) := by
  have h0 : obErr (.blob b) = 0 := by
    show blobErr b.length = 0
    unfold blobErr
    rw [if_neg (by omega)]
  refine ⟨h0, ?_⟩
  have h1 : decR (obB (.blob b) ++ []) = some (.blob (b ++ [])) := decR_obB (.blob b) trivial []
  rw [List.append_nil, List.append_nil] at h1
  unfold decG
  rw [h1, Option.bind_some, if_pos h0]

/-- a store, and its disk, that has just its records -/
structure StG (w : World) (s d : Nat) (os : List Ob) (S : DG) (F G : Nat → Prop) : Prop where
  st : IsSt w s d os (fileB (os.map obB)).length false F
  dk : IsDisk w d S G
  dis : ∀ k, F k → ¬ G k
  gd : JGd S objNm.data.toList (os.map obB)
theorem StG.turn {w w' : World} {s d : Nat} {os : List Ob} {S : DG} {F G X : Nat → Prop} (h : StG w s d os S F G) (hT : Turn X w w') (hX : ∀ k, F k ∨ G k → ¬ X k) : StG w' s d os S F G := ⟨h.st.turn hT (fun k hk => hX k (.inl hk)), h.dk.turn hT (fun k hk => hX k (.inr hk)), h.dis, h.gd⟩
theorem StG.below {w w' : World} {s d : Nat} {os : List Ob} {S : DG} {F G : Nat → Prop} (h : StG w s d os S F G) (hB : Below w.heap.size w w') : StG w' s d os S F G := h.turn (Turn.of_below (fun _ => False) hB) (fun _ _ => id)

theorem sput_good (w : World) (s d : Nat) (os : List Ob) (S : DG) (F G : Nat → Prop) (h : StG w s d os S F G) (v : Value) (o : Ob) (hv : ∀ W, Turn (fun k => F k ∨ G k) w W → ObS o v W) (h0 : obErr o = 0) (hf : findO os (oid o) = none) (hn : os.length < 65536) (hfit : (recB (obB o)).length + (fileB (os.map obB)).length ≤ 4194304) :
    Calls Tryz.prog 31 #[.pointer (some ⟨s, 0, none⟩), v] w fun e w' => e = .returned (.tuple #[.int .u64 (oid o), .int .i64 0]) ∧ Turn (fun k => F k ∨ G k) w w' ∧ ∃ S' F' G', StG w' s d (os ++ [o]) S' F' G' ∧ (∀ k, F' k → F k ∨ w.heap.size ≤ k) ∧ (∀ k, G' k → G k ∨ w.heap.size ≤ k) := by
  have hlen := obB_len (hv w (Turn.refl _ _)).1 h0
  obtain ⟨S', ha, hg'⟩ := h.gd.app objNm_name (obB o) (by omega) hfit
  have hbs : (S.bs objNm.data.toList).length = (fileB (os.map obB)).length := by rw [h.gd.get]
  have hSn := h.gd.n
  have hwr := h.gd.wr
  refine (sput_new w s d os _ F h.st S G h.dk h.dis v o hv h0 hf hn (by rw [hbs]; omega) (by rw [hbs]; exact Nat.le_refl _) (by omega) (by omega)).mono ?_
  rintro e w' ⟨he, hT, F', G', hd', hF', hG', hFG', hc⟩
  rw [ha] at he hd' hc
  rcases hc with ⟨_, hS⟩ | ⟨hne, _⟩
  · refine ⟨he, hT, S', F', G', ⟨?_, hd', hFG', by rw [List.map_append]; exact hg'⟩, hF', hG'⟩
    rw [List.map_append, List.map_cons, List.map_nil, fileB_snoc, List.length_append]
    exact hS
  · exact absurd rfl hne
theorem sopen_good (w : World) (d : Nat) (os : List Ob) (S : DG) (G : Nat → Prop) (hd : IsDisk w d S G) (hg : JGd S objNm.data.toList (os.map obB)) (hp : Pure os) (hfit : (fileB (os.map obB)).length ≤ 4194304) (hn : os.length ≤ 65536) :
    Calls Tryz.prog 28 #[.pointer (some ⟨d, 0, none⟩)] w fun e w' => ∃ s F G', e = .returned (.tuple #[.pointer (some ⟨s, 0, none⟩), .int .i64 0]) ∧ StG w' s d os S F G' ∧ Turn G w w' ∧ (∀ k, F k → w.heap.size ≤ k) ∧ (∀ k, G' k → G k ∨ w.heap.size ≤ k) := by
  have hSn := hg.n
  have hwr := hg.wr
  refine (sopen_any w d S G hd (by rw [hg.get]; exact hfit) (by omega) (by unfold maxLen; omega)).mono ?_
  rintro e w' ⟨hT, G', hd', hG', hc⟩
  obtain ⟨ho, hpa⟩ := hg.opened
  rw [ho] at hd' hc
  rw [hpa, hp.load] at hc
  rcases hc with ⟨h0, _⟩ | ⟨_, h0, _⟩ | ⟨_, os', h0, h1, _⟩ | ⟨_, os', s, F, h0, h1, he, hS, hF, hFG⟩
  · exact absurd rfl h0
  · cases h0
  · cases h0; omega
  · cases h0
    exact ⟨s, F, G', he, ⟨hS, hd', hFG, hg⟩, hT, hF, hG'⟩
end Go.Proofs.YtngfhhdmemldkaaGreat
