import Derived.Test.YthalpnpnbclipaaGreatL28
/- The walks of Blob, Tree and Commit. -/
namespace Go.Proofs.YthalpnpnbclipaaGreat
open Go.RowKit Go.Maps

attribute [local go_sem] Oper.semAt_some

def isTree : Ob → Bool
  | .tree _ => true
  | _ => false
def isCom : Ob → Bool
  | .com _ => true
  | _ => false
def obT : Ob → TypeId
  | .blob _ => 65
  | .tree _ => 69
  | .com _ => 39
theorem held_iface {O : Nat → Prop} {o : Ob} {v : Value} {W : World} (h : Held O o v W) : ∃ t u, v = .iface t u ∧ t = obT o := by
  have h := h.get.1
  cases o with
  | blob b => obtain ⟨ad, cp, rfl, _⟩ := h; exact ⟨_, _, rfl, rfl⟩
  | tree l => obtain ⟨ad, cp, rfl, _⟩ := h; exact ⟨_, _, rfl, rfl⟩
  | com c => obtain ⟨ad, cp, rfl, _⟩ := h; exact ⟨_, _, rfl, rfl⟩

set_option maxRecDepth 20000 in
set_option maxHeartbeats 4000000 in
theorem sasBlob_any (X : Value) (a : Option Addr) (n c : Nat) (ok : Bool) (e0 E : Int) (h1 : ∀ xT w, (Instr.typeAssert X xT 65 true).run Tryz.prog w = .ok (.tuple #[.agg #[.slice a n c], .bool ok]) w) (hE : E = if e0 = 0 ∧ ok = false then 170 else e0) (w : World) :
    Calls Tryz.prog 58 #[X, .int .i64 e0] w fun e w' => e = .returned (.tuple #[.agg #[.slice a n c], .int .i64 E]) ∧ Below w.heap.size w w' := by
  have hk := fun W => kindError_any ok e0 W
  rw [← hE] at hk
  clear hE
  go_enter Tryz.func58, Tryz.ntmps58
  go_wp2_with fail
  obtain ⟨W0, hW0⟩ : ∃ W0, W0 = ((w.alloc (.cells #[.slice none 0 0] 65)).alloc (.cells #[.slice a n c] 65)) := ⟨_, rfl⟩
  have HB0 : Hid (Below w.heap.size w W0) := (by rw [hW0]; exact ((Below.refl _ w).alloc (Nat.le_refl _) _).alloc (by simp) _ : Below w.heap.size w W0)
  have hk0 := hk W0.drew
  have b1 : Boxed W0 (w.heap.size + 1) 65 (.slice a n c) := by
    have := Boxed.new (w.alloc (.cells #[.slice none 0 0] 65)) 65 (.slice a n c)
    rw [World.size_alloc] at this
    rw [hW0]; exact this
  have b0 : Boxed W0 w.heap.size 65 (.slice none 0 0) := by rw [hW0]; exact (Boxed.new w _ _).alloc _
  have x1 := b1.cell
  have x0 := b0.cell
  have y0 := b0.frozen
  have z0 := (b0.set (.slice a n c)).cell
  rw [← hW0]
  clear hW0 hk
  go_region_held3 (fun W => W.cell? ⟨w.heap.size + 1, 0, none⟩ = some (.slice a n c) ∧ W.frozen? ⟨w.heap.size, 0, none⟩ = false)
    (first
      | (go_split_ands
         refine ⟨by go_keep, by go_keep⟩)
      | (go_split_ands
         exact ⟨x1, y0⟩))
    ((go_at_call 92; refine hk0.mono ?_; rintro e w' ⟨rfl, rfl⟩))
  go_wp2
  refine bodyPost_ret (v := .tuple #[.agg #[.slice a n c], .int .i64 E]) (by simp [results, Tryz.results58, go_sem, z0]) rfl ⟨rfl, ?_⟩
  have hBd : Below w.heap.size w W0.drew := ⟨HB0.out.os, HB0.out.tape, HB0.out.output, HB0.out.size, HB0.out.block⟩
  exact hBd.setCell (p := ⟨w.heap.size, 0, none⟩) (Nat.le_refl _) _
set_option maxRecDepth 20000 in
set_option maxHeartbeats 4000000 in
theorem sblob_of (w : World) (s : Value) (i : Int) (e0 E : Int) (Rx : Value → World → Prop) (hg : Calls Tryz.prog 14 #[s, .int .u64 i] (w.alloc (.cells #[.slice none 0 0] 65)) fun e w' => ∃ X, e = .returned (.tuple #[X, .int .i64 e0]) ∧ Rx X w' ∧ Below (w.alloc (.cells #[.slice none 0 0] 65)).heap.size (w.alloc (.cells #[.slice none 0 0] 65)) w')
    (hX : ∀ X W, Rx X W → ∃ a n c ok, (∀ xT w, (Instr.typeAssert X xT 65 true).run Tryz.prog w = .ok (.tuple #[.agg #[.slice a n c], .bool ok]) w) ∧ (E = if e0 = 0 ∧ ok = false then 170 else e0)) :
    Calls Tryz.prog 22 #[s, .int .u64 i] w fun e w' => ∃ a n c X W1, e = .returned (.tuple #[.agg #[.slice a n c], .int .i64 E]) ∧ Rx X W1 ∧ (∃ ok, ∀ xT w, (Instr.typeAssert X xT 65 true).run Tryz.prog w = .ok (.tuple #[.agg #[.slice a n c], .bool ok]) w) ∧ Below (w.alloc (.cells #[.slice none 0 0] 65)).heap.size (w.alloc (.cells #[.slice none 0 0] 65)) W1 ∧ Below w.heap.size w w' ∧ (∀ k, k ≠ w.heap.size → k < W1.heap.size → w'.heap[k]? = W1.heap[k]?) := by
  have hB0 : Below w.heap.size w (w.alloc (.cells #[.slice none 0 0] 65)) := (Below.refl _ w).alloc (Nat.le_refl _) _
  have HX : Hid (∀ X W, Rx X W → ∃ a n c ok, (∀ xT w, (Instr.typeAssert X xT 65 true).run Tryz.prog w = .ok (.tuple #[.agg #[.slice a n c], .bool ok]) w) ∧ (E = if e0 = 0 ∧ ok = false then 170 else e0)) := hX
  clear hX
  go_enter Tryz.func22, Tryz.ntmps22
  go_wp2_with first
    | (go_at_call 14; refine hg.mono ?_; clear hg; rintro e w0 ⟨X, rfl, hR0, hBg⟩; have HR : Hid (Rx X w0) := hR0; have HBg : Hid (Below (w.alloc (.cells #[.slice none 0 0] 65)).heap.size (w.alloc (.cells #[.slice none 0 0] 65)) w0) := hBg; obtain ⟨a, n, c, ok, hta, hE⟩ := HX.out X w0 hR0; have HTA : Hid (∀ xT w, (Instr.typeAssert X xT 65 true).run Tryz.prog w = .ok (.tuple #[.agg #[.slice a n c], .bool ok]) w) := hta; have HE : Hid (E = if e0 = 0 ∧ ok = false then 170 else e0) := hE; clear hR0 hBg hta hE)
    | (go_at_call 58; refine (sasBlob_any X a n c ok e0 E HTA.out HE.out _).mono ?_; rintro e w1 ⟨rfl, hB1⟩; have HB : Below (w.alloc (.cells #[.slice none 0 0] 65)).heap.size (w.alloc (.cells #[.slice none 0 0] 65)) w1 := HBg.out.trans (hB1.mono HBg.out.size); have hb : Boxed w1 w.heap.size 65 (.slice none 0 0) := (HB.block w.heap.size (by simp)).trans (World.alloc_heap_new _ _); have cb := hb.cell; have fb := hb.frozen)
  have c2 := (hb.set (.slice a n c)).cell
  refine bodyPost_ret (v := .tuple #[.agg #[.slice a n c], .int .i64 E]) (by simp [results, Tryz.results22, go_sem, c2]) rfl ⟨a, n, c, X, w0, rfl, HR.out, ⟨ok, HTA.out⟩, HBg.out, (hB0.trans (HB.mono (by simp))).setCell (p := ⟨w.heap.size, 0, none⟩) (Nat.le_refl _) _, fun k hk hl => ?_⟩
  rw [Below.heap_setCell _ _ _ _ (by exact hk)]
  exact hB1.block k hl
theorem sblob_nil (w : World) (i : Int) : Calls Tryz.prog 22 #[.pointer none, .int .u64 i] w fun e w' => ∃ a n c, e = .returned (.tuple #[.agg #[.slice a n c], .int .i64 1]) ∧ Below w.heap.size w w' := by
  refine (sblob_of w (.pointer none) i 1 1 (fun X _ => X = .nilIface) ((get_nil _ i).mono fun e w' h => ⟨_, h.1, rfl, h.2 ▸ Below.refl _ _⟩) ?_).mono ?_
  · rintro X W rfl
    exact ⟨none, 0, 0, false, nil_blob, rfl⟩
  · rintro e w' ⟨a, n, c, X, W1, he, _, _, _, hB, _⟩
    exact ⟨a, n, c, he, hB⟩
theorem sblob_no (w : World) (s d : Nat) (os : List Ob) (sz : Nat) (cut : Bool) (F : Nat → Prop) (h : IsSt w s d os sz cut F) (i : Int) (h0 : 0 ≤ i) (h1 : i ≤ 18446744073709551615) (o : Ob) (hf : findO os i = some o) (hk : isBlob o = false) :
    Calls Tryz.prog 22 #[.pointer (some ⟨s, 0, none⟩), .int .u64 i] w fun e w' => ∃ a n c, e = .returned (.tuple #[.agg #[.slice a n c], .int .i64 170]) ∧ Below w.heap.size w w' := by
  refine (sblob_of w (.pointer (some ⟨s, 0, none⟩)) i 0 170 (fun X W => ∃ O, Held O o X W) ((get_there _ s d os sz cut F (h.below ((Below.refl _ w).alloc (Nat.le_refl _) _)) i h0 h1 o hf).mono fun e w' ⟨u, h1, h2, h3⟩ => ⟨u, h1, ⟨_, h2⟩, h3⟩) ?_).mono ?_
  · rintro X W ⟨O, hX⟩
    obtain ⟨t, u, rfl, ht⟩ := held_iface hX
    refine ⟨none, 0, 0, false, no_blob t ?_ u, rfl⟩
    rw [ht]
    cases o <;> first | (cases hk; done) | (show obT _ ≠ _; simp [obT]; done) | (simp only [obT]; decide)
  · rintro e w' ⟨a, n, c, X, W1, he, _, _, _, hB, _⟩
    exact ⟨a, n, c, he, hB⟩
theorem sblob_yes (w : World) (s d : Nat) (os : List Ob) (sz : Nat) (cut : Bool) (F : Nat → Prop) (h : IsSt w s d os sz cut F) (i : Int) (h0 : 0 ≤ i) (h1 : i ≤ 18446744073709551615) (o : Ob) (hf : findO os i = some o) (hk : isBlob o = true) :
    Calls Tryz.prog 22 #[.pointer (some ⟨s, 0, none⟩), .int .u64 i] w fun e w' => ∃ a n c, e = .returned (.tuple #[.agg #[.slice a n c], .int .i64 0]) ∧ ObS o (.iface 65 (.agg #[.slice a n c])) w' ∧ Below w.heap.size w w' := by
  refine (sblob_of w (.pointer (some ⟨s, 0, none⟩)) i 0 0 (fun X W => Held (Fresh (w.heap.size + 1) W) o X W) ((get_there _ s d os sz cut F (h.below ((Below.refl _ w).alloc (Nat.le_refl _) _)) i h0 h1 o hf).mono fun e w' ⟨u, h1, h2, h3⟩ => ⟨u, h1, by rw [World.size_alloc] at h2; exact h2, h3⟩) ?_).mono ?_
  · rintro X W hX
    cases o <;> first | (cases hk; done) | skip
    obtain ⟨ad, cp, rfl, _⟩ := hX.get.1; exact ⟨ad, _, cp, true, as_blob _, rfl⟩
  · rintro e w' ⟨a, n, c, X, W1, he, hX, ⟨ok, hta⟩, hBW, hB, hsame⟩
    refine ⟨a, n, c, he, ?_, hB⟩
    have hX' := (hX.kept (W' := w') fun k hk => hsame k (by have := hk.1; omega) hk.lt).get
    obtain ⟨t0, u, rfl, ht⟩ := held_iface hX
    have h2 : t0 = 65 := by rw [ht]; cases o <;> first | (cases hk; done) | rfl
    subst h2
    have h3 := hta 0 w
    rw [as_blob] at h3
    cases h3
    exact hX'

set_option maxRecDepth 20000 in
set_option maxHeartbeats 4000000 in
theorem sasTree_any (X : Value) (a : Option Addr) (n c : Nat) (ok : Bool) (e0 E : Int) (h1 : ∀ xT w, (Instr.typeAssert X xT 69 true).run Tryz.prog w = .ok (.tuple #[.agg #[.slice a n c], .bool ok]) w) (hE : E = if e0 = 0 ∧ ok = false then 170 else e0) (w : World) :
    Calls Tryz.prog 59 #[X, .int .i64 e0] w fun e w' => e = .returned (.tuple #[.agg #[.slice a n c], .int .i64 E]) ∧ Below w.heap.size w w' := by
  have hk := fun W => kindError_any ok e0 W
  rw [← hE] at hk
  clear hE
  go_enter Tryz.func59, Tryz.ntmps59
  go_wp2_with fail
  obtain ⟨W0, hW0⟩ : ∃ W0, W0 = ((w.alloc (.cells #[.slice none 0 0] 69)).alloc (.cells #[.slice a n c] 69)) := ⟨_, rfl⟩
  have HB0 : Hid (Below w.heap.size w W0) := (by rw [hW0]; exact ((Below.refl _ w).alloc (Nat.le_refl _) _).alloc (by simp) _ : Below w.heap.size w W0)
  have hk0 := hk W0.drew
  have b1 : Boxed W0 (w.heap.size + 1) 69 (.slice a n c) := by
    have := Boxed.new (w.alloc (.cells #[.slice none 0 0] 69)) 69 (.slice a n c)
    rw [World.size_alloc] at this
    rw [hW0]; exact this
  have b0 : Boxed W0 w.heap.size 69 (.slice none 0 0) := by rw [hW0]; exact (Boxed.new w _ _).alloc _
  have x1 := b1.cell
  have x0 := b0.cell
  have y0 := b0.frozen
  have z0 := (b0.set (.slice a n c)).cell
  rw [← hW0]
  clear hW0 hk
  go_region_held3 (fun W => W.cell? ⟨w.heap.size + 1, 0, none⟩ = some (.slice a n c) ∧ W.frozen? ⟨w.heap.size, 0, none⟩ = false)
    (first
      | (go_split_ands
         refine ⟨by go_keep, by go_keep⟩)
      | (go_split_ands
         exact ⟨x1, y0⟩))
    ((go_at_call 92; refine hk0.mono ?_; rintro e w' ⟨rfl, rfl⟩))
  go_wp2
  refine bodyPost_ret (v := .tuple #[.agg #[.slice a n c], .int .i64 E]) (by simp [results, Tryz.results59, go_sem, z0]) rfl ⟨rfl, ?_⟩
  have hBd : Below w.heap.size w W0.drew := ⟨HB0.out.os, HB0.out.tape, HB0.out.output, HB0.out.size, HB0.out.block⟩
  exact hBd.setCell (p := ⟨w.heap.size, 0, none⟩) (Nat.le_refl _) _
set_option maxRecDepth 20000 in
set_option maxHeartbeats 4000000 in
theorem stree_of (w : World) (s : Value) (i : Int) (e0 E : Int) (Rx : Value → World → Prop) (hg : Calls Tryz.prog 14 #[s, .int .u64 i] (w.alloc (.cells #[.slice none 0 0] 69)) fun e w' => ∃ X, e = .returned (.tuple #[X, .int .i64 e0]) ∧ Rx X w' ∧ Below (w.alloc (.cells #[.slice none 0 0] 69)).heap.size (w.alloc (.cells #[.slice none 0 0] 69)) w')
    (hX : ∀ X W, Rx X W → ∃ a n c ok, (∀ xT w, (Instr.typeAssert X xT 69 true).run Tryz.prog w = .ok (.tuple #[.agg #[.slice a n c], .bool ok]) w) ∧ (E = if e0 = 0 ∧ ok = false then 170 else e0)) :
    Calls Tryz.prog 23 #[s, .int .u64 i] w fun e w' => ∃ a n c X W1, e = .returned (.tuple #[.agg #[.slice a n c], .int .i64 E]) ∧ Rx X W1 ∧ (∃ ok, ∀ xT w, (Instr.typeAssert X xT 69 true).run Tryz.prog w = .ok (.tuple #[.agg #[.slice a n c], .bool ok]) w) ∧ Below (w.alloc (.cells #[.slice none 0 0] 69)).heap.size (w.alloc (.cells #[.slice none 0 0] 69)) W1 ∧ Below w.heap.size w w' ∧ (∀ k, k ≠ w.heap.size → k < W1.heap.size → w'.heap[k]? = W1.heap[k]?) := by
  have hB0 : Below w.heap.size w (w.alloc (.cells #[.slice none 0 0] 69)) := (Below.refl _ w).alloc (Nat.le_refl _) _
  have HX : Hid (∀ X W, Rx X W → ∃ a n c ok, (∀ xT w, (Instr.typeAssert X xT 69 true).run Tryz.prog w = .ok (.tuple #[.agg #[.slice a n c], .bool ok]) w) ∧ (E = if e0 = 0 ∧ ok = false then 170 else e0)) := hX
  clear hX
  go_enter Tryz.func23, Tryz.ntmps23
  go_wp2_with first
    | (go_at_call 14; refine hg.mono ?_; clear hg; rintro e w0 ⟨X, rfl, hR0, hBg⟩; have HR : Hid (Rx X w0) := hR0; have HBg : Hid (Below (w.alloc (.cells #[.slice none 0 0] 69)).heap.size (w.alloc (.cells #[.slice none 0 0] 69)) w0) := hBg; obtain ⟨a, n, c, ok, hta, hE⟩ := HX.out X w0 hR0; have HTA : Hid (∀ xT w, (Instr.typeAssert X xT 69 true).run Tryz.prog w = .ok (.tuple #[.agg #[.slice a n c], .bool ok]) w) := hta; have HE : Hid (E = if e0 = 0 ∧ ok = false then 170 else e0) := hE; clear hR0 hBg hta hE)
    | (go_at_call 59; refine (sasTree_any X a n c ok e0 E HTA.out HE.out _).mono ?_; rintro e w1 ⟨rfl, hB1⟩; have HB : Below (w.alloc (.cells #[.slice none 0 0] 69)).heap.size (w.alloc (.cells #[.slice none 0 0] 69)) w1 := HBg.out.trans (hB1.mono HBg.out.size); have hb : Boxed w1 w.heap.size 69 (.slice none 0 0) := (HB.block w.heap.size (by simp)).trans (World.alloc_heap_new _ _); have cb := hb.cell; have fb := hb.frozen)
  have c2 := (hb.set (.slice a n c)).cell
  refine bodyPost_ret (v := .tuple #[.agg #[.slice a n c], .int .i64 E]) (by simp [results, Tryz.results23, go_sem, c2]) rfl ⟨a, n, c, X, w0, rfl, HR.out, ⟨ok, HTA.out⟩, HBg.out, (hB0.trans (HB.mono (by simp))).setCell (p := ⟨w.heap.size, 0, none⟩) (Nat.le_refl _) _, fun k hk hl => ?_⟩
  rw [Below.heap_setCell _ _ _ _ (by exact hk)]
  exact hB1.block k hl
theorem stree_nil (w : World) (i : Int) : Calls Tryz.prog 23 #[.pointer none, .int .u64 i] w fun e w' => ∃ a n c, e = .returned (.tuple #[.agg #[.slice a n c], .int .i64 1]) ∧ Below w.heap.size w w' := by
  refine (stree_of w (.pointer none) i 1 1 (fun X _ => X = .nilIface) ((get_nil _ i).mono fun e w' h => ⟨_, h.1, rfl, h.2 ▸ Below.refl _ _⟩) ?_).mono ?_
  · rintro X W rfl
    exact ⟨none, 0, 0, false, nil_tree, rfl⟩
  · rintro e w' ⟨a, n, c, X, W1, he, _, _, _, hB, _⟩
    exact ⟨a, n, c, he, hB⟩
theorem stree_no (w : World) (s d : Nat) (os : List Ob) (sz : Nat) (cut : Bool) (F : Nat → Prop) (h : IsSt w s d os sz cut F) (i : Int) (h0 : 0 ≤ i) (h1 : i ≤ 18446744073709551615) (o : Ob) (hf : findO os i = some o) (hk : isTree o = false) :
    Calls Tryz.prog 23 #[.pointer (some ⟨s, 0, none⟩), .int .u64 i] w fun e w' => ∃ a n c, e = .returned (.tuple #[.agg #[.slice a n c], .int .i64 170]) ∧ Below w.heap.size w w' := by
  refine (stree_of w (.pointer (some ⟨s, 0, none⟩)) i 0 170 (fun X W => ∃ O, Held O o X W) ((get_there _ s d os sz cut F (h.below ((Below.refl _ w).alloc (Nat.le_refl _) _)) i h0 h1 o hf).mono fun e w' ⟨u, h1, h2, h3⟩ => ⟨u, h1, ⟨_, h2⟩, h3⟩) ?_).mono ?_
  · rintro X W ⟨O, hX⟩
    obtain ⟨t, u, rfl, ht⟩ := held_iface hX
    refine ⟨none, 0, 0, false, no_tree t ?_ u, rfl⟩
    rw [ht]
    cases o <;> first | (cases hk; done) | (show obT _ ≠ _; simp [obT]; done) | (simp only [obT]; decide)
  · rintro e w' ⟨a, n, c, X, W1, he, _, _, _, hB, _⟩
    exact ⟨a, n, c, he, hB⟩
theorem stree_yes (w : World) (s d : Nat) (os : List Ob) (sz : Nat) (cut : Bool) (F : Nat → Prop) (h : IsSt w s d os sz cut F) (i : Int) (h0 : 0 ≤ i) (h1 : i ≤ 18446744073709551615) (o : Ob) (hf : findO os i = some o) (hk : isTree o = true) :
    Calls Tryz.prog 23 #[.pointer (some ⟨s, 0, none⟩), .int .u64 i] w fun e w' => ∃ a n c, e = .returned (.tuple #[.agg #[.slice a n c], .int .i64 0]) ∧ ObS o (.iface 69 (.agg #[.slice a n c])) w' ∧ Below w.heap.size w w' := by
  refine (stree_of w (.pointer (some ⟨s, 0, none⟩)) i 0 0 (fun X W => Held (Fresh (w.heap.size + 1) W) o X W) ((get_there _ s d os sz cut F (h.below ((Below.refl _ w).alloc (Nat.le_refl _) _)) i h0 h1 o hf).mono fun e w' ⟨u, h1, h2, h3⟩ => ⟨u, h1, by rw [World.size_alloc] at h2; exact h2, h3⟩) ?_).mono ?_
  · rintro X W hX
    cases o <;> first | (cases hk; done) | skip
    obtain ⟨ad, cp, rfl, _⟩ := hX.get.1; exact ⟨ad, _, cp, true, as_tree _, rfl⟩
  · rintro e w' ⟨a, n, c, X, W1, he, hX, ⟨ok, hta⟩, hBW, hB, hsame⟩
    refine ⟨a, n, c, he, ?_, hB⟩
    have hX' := (hX.kept (W' := w') fun k hk => hsame k (by have := hk.1; omega) hk.lt).get
    obtain ⟨t0, u, rfl, ht⟩ := held_iface hX
    have h2 : t0 = 69 := by rw [ht]; cases o <;> first | (cases hk; done) | rfl
    subst h2
    have h3 := hta 0 w
    rw [as_tree] at h3
    cases h3
    exact hX'
end Go.Proofs.YthalpnpnbclipaaGreat

/- The walk of Commit. -/
namespace Go.Proofs.YthalpnpnbclipaaGreat
open Go.RowKit Go.Maps

attribute [local go_sem] Oper.semAt_some
theorem step_kindError {ops : Array Oper} {o : Oper} {a : Act} {K : Act → World → Prop} {Q : Exit → Act → World → Prop} {E : Prop} (w : World) (ok : Bool) (e0 E0 : Int) (hE : E0 = if e0 = 0 ∧ ok = false then 170 else e0) (hgd : o.guard = none) (x y : Nat)
    (ho : o.op = .call { callee := .value (.func 92), args := #[.tmp x, .tmp y], argTypes := #[4, 29] }) (hx : a.tmps[x]?.getD undef = .bool ok) (hy : a.tmps[y]?.getD undef = .int .i64 e0)
    (hK : K (a.put o.dst (.int .i64 E0)) w) :
    if Region.wanted o (yielded ops a.tmps) = true then Oper.wp Tryz.prog o a w K Q else E := by
  have hw : Region.wanted o (yielded ops a.tmps) = true := by simp [Region.wanted, hgd]
  rw [if_pos hw]
  have hc := kindError_any ok e0 w
  rw [← hE] at hc
  unfold Oper.wp execOp
  simp [ho, resolve, invoke, go_sem, hx, hy]
  refine hc.mono ?_
  rintro y w' ⟨rfl, h2⟩
  rw [h2]
  simpa [go_sem] using hK

set_option maxRecDepth 20000 in
set_option maxHeartbeats 4000000 in
theorem sasCommit_any (X : Value) (t : Int) (a : Option Addr) (n c : Nat) (au : ByteArray) (dt : Int) (tx : ByteArray) (ok : Bool) (e0 E : Int) (h1 : ∀ xT w, (Instr.typeAssert X xT 39 true).run Tryz.prog w = .ok (.tuple #[.agg #[.int .u64 t, .slice a n c, .string au, .int .i64 dt, .string tx], .bool ok]) w) (hE : E = if e0 = 0 ∧ ok = false then 170 else e0) (w : World) :
    Calls Tryz.prog 60 #[X, .int .i64 e0] w fun e w' => e = .returned (.tuple #[.agg #[.int .u64 t, .slice a n c, .string au, .int .i64 dt, .string tx], .int .i64 E]) ∧ Below w.heap.size w w' := by
  go_enter Tryz.func60, Tryz.ntmps60
  go_wp2_with fail
  obtain ⟨W0, hW0⟩ : ∃ W0, W0 = ((w.alloc (.cells #[.int .u64 0, .slice none 0 0, .string ⟨#[]⟩, .int .i64 0, .string ⟨#[]⟩] 39)).alloc (.cells #[.int .u64 t, .slice a n c, .string au, .int .i64 dt, .string tx] 39)) := ⟨_, rfl⟩
  have HB0 : Hid (Below w.heap.size w W0) := (by rw [hW0]; exact ((Below.refl _ w).alloc (Nat.le_refl _) _).alloc (by simp) _ : Below w.heap.size w W0)
  have HK : Hid (E = if e0 = 0 ∧ ok = false then 170 else e0) := hE
  have b1 : Box5 W0 (w.heap.size + 1) (.int .u64 t) (.slice a n c) (.string au) (.int .i64 dt) (.string tx) := by
    have := Box5.new (w.alloc (.cells #[.int .u64 0, .slice none 0 0, .string ⟨#[]⟩, .int .i64 0, .string ⟨#[]⟩] 39)) (.int .u64 t) (.slice a n c) (.string au) (.int .i64 dt) (.string tx)
    rw [World.size_alloc] at this
    rw [hW0]; exact this
  have b0 : Box5 W0 w.heap.size (.int .u64 0) (.slice none 0 0) (.string ⟨#[]⟩) (.int .i64 0) (.string ⟨#[]⟩) := by
    have h0 := Box5.new w (.int .u64 0) (.slice none 0 0) (.string ⟨#[]⟩) (.int .i64 0) (.string ⟨#[]⟩)
    rw [hW0]; exact h0.kept ((Below.refl _ _).alloc (Nat.le_refl _) _)
  obtain ⟨x0, x1, x2, x3, x4⟩ := b1.cell
  obtain ⟨y0, y1, y2, y3, y4⟩ := b0.frozen
  obtain ⟨v0, v1, v2, v3, v4⟩ := b0.cell
  obtain ⟨z0, z1, z2, z3, z4⟩ := (b0.all (.int .u64 t) (.slice a n c) (.string au) (.int .i64 dt) (.string tx)).cell
  rw [← hW0]
  clear hW0 hE
  go_region_law (first
    | (refine step_kindError _ ok e0 E HK.out (by rfl) _ _ (by rfl) (by rfl) (by rfl) ?_))
  all_goals
   go_wp2
   refine bodyPost_ret (v := .tuple #[.agg #[.int .u64 t, .slice a n c, .string au, .int .i64 dt, .string tx], .int .i64 E]) (by simp [results, Tryz.results60, go_sem, z0, z1, z2, z3, z4]) rfl ⟨rfl, ?_⟩
   have hBd : Below w.heap.size w W0.drew := ⟨HB0.out.os, HB0.out.tape, HB0.out.output, HB0.out.size, HB0.out.block⟩
   exact below5 hBd (Nat.le_refl _) _ _ _ _ _
set_option maxRecDepth 20000 in
set_option maxHeartbeats 4000000 in
theorem scom_of (w : World) (s : Value) (i : Int) (e0 E : Int) (Rx : Value → World → Prop) (hg : Calls Tryz.prog 14 #[s, .int .u64 i] (w.alloc (.cells #[.int .u64 0, .slice none 0 0, .string ⟨#[]⟩, .int .i64 0, .string ⟨#[]⟩] 39)) fun e w' => ∃ X, e = .returned (.tuple #[X, .int .i64 e0]) ∧ Rx X w' ∧ Below (w.alloc (.cells #[.int .u64 0, .slice none 0 0, .string ⟨#[]⟩, .int .i64 0, .string ⟨#[]⟩] 39)).heap.size (w.alloc (.cells #[.int .u64 0, .slice none 0 0, .string ⟨#[]⟩, .int .i64 0, .string ⟨#[]⟩] 39)) w')
    (hX : ∀ X W, Rx X W → ∃ t a n c au dt tx ok, (∀ xT w, (Instr.typeAssert X xT 39 true).run Tryz.prog w = .ok (.tuple #[.agg #[.int .u64 t, .slice a n c, .string au, .int .i64 dt, .string tx], .bool ok]) w) ∧ (E = if e0 = 0 ∧ ok = false then 170 else e0)) :
    Calls Tryz.prog 24 #[s, .int .u64 i] w fun e w' => ∃ t a n c au dt tx X W1, e = .returned (.tuple #[.agg #[.int .u64 t, .slice a n c, .string au, .int .i64 dt, .string tx], .int .i64 E]) ∧ Rx X W1 ∧ (∃ ok, ∀ xT w, (Instr.typeAssert X xT 39 true).run Tryz.prog w = .ok (.tuple #[.agg #[.int .u64 t, .slice a n c, .string au, .int .i64 dt, .string tx], .bool ok]) w) ∧ Below (w.alloc (.cells #[.int .u64 0, .slice none 0 0, .string ⟨#[]⟩, .int .i64 0, .string ⟨#[]⟩] 39)).heap.size (w.alloc (.cells #[.int .u64 0, .slice none 0 0, .string ⟨#[]⟩, .int .i64 0, .string ⟨#[]⟩] 39)) W1 ∧ Below w.heap.size w w' ∧ (∀ k, k ≠ w.heap.size → k < W1.heap.size → w'.heap[k]? = W1.heap[k]?) := by
  have hB0 : Below w.heap.size w (w.alloc (.cells #[.int .u64 0, .slice none 0 0, .string ⟨#[]⟩, .int .i64 0, .string ⟨#[]⟩] 39)) := (Below.refl _ w).alloc (Nat.le_refl _) _
  have HX : Hid (∀ X W, Rx X W → ∃ t a n c au dt tx ok, (∀ xT w, (Instr.typeAssert X xT 39 true).run Tryz.prog w = .ok (.tuple #[.agg #[.int .u64 t, .slice a n c, .string au, .int .i64 dt, .string tx], .bool ok]) w) ∧ (E = if e0 = 0 ∧ ok = false then 170 else e0)) := hX
  clear hX
  go_enter Tryz.func24, Tryz.ntmps24
  go_wp2_with first
    | (go_at_call 14; refine hg.mono ?_; clear hg; rintro e w0 ⟨X, rfl, hR0, hBg⟩; have HR : Hid (Rx X w0) := hR0; have HBg : Hid (Below (w.alloc (.cells #[.int .u64 0, .slice none 0 0, .string ⟨#[]⟩, .int .i64 0, .string ⟨#[]⟩] 39)).heap.size (w.alloc (.cells #[.int .u64 0, .slice none 0 0, .string ⟨#[]⟩, .int .i64 0, .string ⟨#[]⟩] 39)) w0) := hBg; obtain ⟨t, a, n, c, au, dt, tx, ok, hta, hE⟩ := HX.out X w0 hR0; have HTA : Hid (∀ xT w, (Instr.typeAssert X xT 39 true).run Tryz.prog w = .ok (.tuple #[.agg #[.int .u64 t, .slice a n c, .string au, .int .i64 dt, .string tx], .bool ok]) w) := hta; have HE : Hid (E = if e0 = 0 ∧ ok = false then 170 else e0) := hE; clear hR0 hBg hta hE)
    | (go_at_call 60; refine (sasCommit_any X t a n c au dt tx ok e0 E HTA.out HE.out _).mono ?_; rintro e w1 ⟨rfl, hB1⟩; have HB : Below (w.alloc (.cells #[.int .u64 0, .slice none 0 0, .string ⟨#[]⟩, .int .i64 0, .string ⟨#[]⟩] 39)).heap.size (w.alloc (.cells #[.int .u64 0, .slice none 0 0, .string ⟨#[]⟩, .int .i64 0, .string ⟨#[]⟩] 39)) w1 := HBg.out.trans (hB1.mono HBg.out.size); have hb : Box5 w1 w.heap.size (.int .u64 0) (.slice none 0 0) (.string ⟨#[]⟩) (.int .i64 0) (.string ⟨#[]⟩) := (HB.block w.heap.size (by simp)).trans (World.alloc_heap_new _ _); obtain ⟨cb0, cb1, cb2, cb3, cb4⟩ := hb.cell; obtain ⟨fb0, fb1, fb2, fb3, fb4⟩ := hb.frozen)
  obtain ⟨d0, d1, d2, d3, d4⟩ := (hb.all (.int .u64 t) (.slice a n c) (.string au) (.int .i64 dt) (.string tx)).cell
  refine bodyPost_ret (v := .tuple #[.agg #[.int .u64 t, .slice a n c, .string au, .int .i64 dt, .string tx], .int .i64 E]) (by simp [results, Tryz.results24, go_sem, d0, d1, d2, d3, d4]) rfl ⟨t, a, n, c, au, dt, tx, X, w0, rfl, HR.out, ⟨ok, HTA.out⟩, HBg.out, below5 (hB0.trans (HB.mono (by simp))) (Nat.le_refl _) _ _ _ _ _, fun k hk hl => ?_⟩
  rw [Below.heap_setCell _ _ _ _ (by exact hk), Below.heap_setCell _ _ _ _ (by exact hk), Below.heap_setCell _ _ _ _ (by exact hk), Below.heap_setCell _ _ _ _ (by exact hk), Below.heap_setCell _ _ _ _ (by exact hk)]
  exact hB1.block k hl
theorem scom_nil (w : World) (i : Int) : Calls Tryz.prog 24 #[.pointer none, .int .u64 i] w fun e w' => ∃ t a n c au dt tx, e = .returned (.tuple #[.agg #[.int .u64 t, .slice a n c, .string au, .int .i64 dt, .string tx], .int .i64 1]) ∧ Below w.heap.size w w' := by
  refine (scom_of w (.pointer none) i 1 1 (fun X _ => X = .nilIface) ((get_nil _ i).mono fun e w' h => ⟨_, h.1, rfl, h.2 ▸ Below.refl _ _⟩) ?_).mono ?_
  · rintro X W rfl
    exact ⟨0, none, 0, 0, ⟨#[]⟩, 0, ⟨#[]⟩, false, nil_commit, rfl⟩
  · rintro e w' ⟨t, a, n, c, au, dt, tx, X, W1, he, _, _, _, hB, _⟩
    exact ⟨t, a, n, c, au, dt, tx, he, hB⟩
theorem scom_no (w : World) (s d : Nat) (os : List Ob) (sz : Nat) (cut : Bool) (F : Nat → Prop) (h : IsSt w s d os sz cut F) (i : Int) (h0 : 0 ≤ i) (h1 : i ≤ 18446744073709551615) (o : Ob) (hf : findO os i = some o) (hk : isCom o = false) :
    Calls Tryz.prog 24 #[.pointer (some ⟨s, 0, none⟩), .int .u64 i] w fun e w' => ∃ t a n c au dt tx, e = .returned (.tuple #[.agg #[.int .u64 t, .slice a n c, .string au, .int .i64 dt, .string tx], .int .i64 170]) ∧ Below w.heap.size w w' := by
  refine (scom_of w (.pointer (some ⟨s, 0, none⟩)) i 0 170 (fun X W => ∃ O, Held O o X W) ((get_there _ s d os sz cut F (h.below ((Below.refl _ w).alloc (Nat.le_refl _) _)) i h0 h1 o hf).mono fun e w' ⟨u, h1, h2, h3⟩ => ⟨u, h1, ⟨_, h2⟩, h3⟩) ?_).mono ?_
  · rintro X W ⟨O, hX⟩
    obtain ⟨t, u, rfl, ht⟩ := held_iface hX
    refine ⟨0, none, 0, 0, ⟨#[]⟩, 0, ⟨#[]⟩, false, no_commit t ?_ u, rfl⟩
    rw [ht]
    cases o <;> first | (cases hk; done) | (show obT _ ≠ _; simp [obT]; done) | (simp only [obT]; decide)
  · rintro e w' ⟨t, a, n, c, au, dt, tx, X, W1, he, _, _, _, hB, _⟩
    exact ⟨t, a, n, c, au, dt, tx, he, hB⟩
theorem scom_yes (w : World) (s d : Nat) (os : List Ob) (sz : Nat) (cut : Bool) (F : Nat → Prop) (h : IsSt w s d os sz cut F) (i : Int) (h0 : 0 ≤ i) (h1 : i ≤ 18446744073709551615) (o : Ob) (hf : findO os i = some o) (hk : isCom o = true) :
    Calls Tryz.prog 24 #[.pointer (some ⟨s, 0, none⟩), .int .u64 i] w fun e w' => ∃ t a n c au dt tx, e = .returned (.tuple #[.agg #[.int .u64 t, .slice a n c, .string au, .int .i64 dt, .string tx], .int .i64 0]) ∧ ObS o (.iface 39 (.agg #[.int .u64 t, .slice a n c, .string au, .int .i64 dt, .string tx])) w' ∧ Below w.heap.size w w' := by
  refine (scom_of w (.pointer (some ⟨s, 0, none⟩)) i 0 0 (fun X W => Held (Fresh (w.heap.size + 1) W) o X W) ((get_there _ s d os sz cut F (h.below ((Below.refl _ w).alloc (Nat.le_refl _) _)) i h0 h1 o hf).mono fun e w' ⟨u, h1, h2, h3⟩ => ⟨u, h1, by rw [World.size_alloc] at h2; exact h2, h3⟩) ?_).mono ?_
  · rintro X W hX
    cases o <;> first | (cases hk; done) | skip
    obtain ⟨ad, cp, rfl, _⟩ := hX.get.1; exact ⟨_, ad, _, cp, _, _, _, true, as_commit _, rfl⟩
  · rintro e w' ⟨t, a, n, c, au, dt, tx, X, W1, he, hX, ⟨ok, hta⟩, hBW, hB, hsame⟩
    refine ⟨t, a, n, c, au, dt, tx, he, ?_, hB⟩
    have hX' := (hX.kept (W' := w') fun k hk => hsame k (by have := hk.1; omega) hk.lt).get
    obtain ⟨t0, u, rfl, ht⟩ := held_iface hX
    have h2 : t0 = 39 := by rw [ht]; cases o <;> first | (cases hk; done) | rfl
    subst h2
    have h3 := hta 0 w
    rw [as_commit] at h3
    cases h3
    exact hX'
end Go.Proofs.YthalpnpnbclipaaGreat
