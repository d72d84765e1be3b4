import Derived.Test.YthalpnpnbclipaaGreatP27
/- The walks of the store's calls that read. -/
namespace Go.Proofs.YthalpnpnbclipaaGreat
open Go.RowKit Go.Maps

attribute [local go_sem] Oper.semAt_some

theorem find_nil (w : World) (i : Int) : Calls Tryz.prog 43 #[.pointer none, .int .u64 i] w fun e w' => e = .returned (.tuple #[.nilIface, .int .i64 1]) ∧ w' = w := by
  go_enter Tryz.func43, Tryz.ntmps43
  go_wp2
  go_ret2
  exact ⟨rfl, rfl⟩
theorem find_not (w : World) (s d j b : Nat) (M : DataW Value) (v : Value) (rs : List (List UInt8)) (os : List Ob) (sz : Nat) (cut : Bool) (FJ O F : Nat → Prop) (h : StAt w s d j b M v rs os sz cut FJ O F) (i : Int) (h0 : 0 ≤ i) (h1 : i ≤ 18446744073709551615) (hf : findO os i = none) :
    Calls Tryz.prog 43 #[.pointer (some ⟨s, 0, none⟩), .int .u64 i] w fun e w' => e = .returned (.tuple #[.nilIface, .int .i64 4]) ∧ w' = w := by
  have c1 := h.c1
  have hl := h.not i h0 h1 hf w rfl
  clear h
  go_enter Tryz.func43, Tryz.ntmps43
  go_wp2
  go_ret2
  exact ⟨rfl, rfl⟩
theorem find_there (w : World) (s d j b : Nat) (M : DataW Value) (v : Value) (rs : List (List UInt8)) (os : List Ob) (sz : Nat) (cut : Bool) (FJ O F : Nat → Prop) (h : StAt w s d j b M v rs os sz cut FJ O F) (i : Int) (h0 : 0 ≤ i) (h1 : i ≤ 18446744073709551615) (o : Ob) (hf : findO os i = some o) :
    Calls Tryz.prog 43 #[.pointer (some ⟨s, 0, none⟩), .int .u64 i] w fun e w' => ∃ u, e = .returned (.tuple #[u, .int .i64 0]) ∧ Held O o u w ∧ w' = w := by
  have c1 := h.c1
  obtain ⟨u, hu, hl'⟩ := h.there i h0 h1 o hf
  have hl := hl' w rfl
  have HU : Hid (Held O o u w) := hu
  clear h hu hl'
  go_enter Tryz.func43, Tryz.ntmps43
  go_wp2
  go_ret2
  exact ⟨u, rfl, HU.out, rfl⟩

theorem get_nil (w : World) (i : Int) : Calls Tryz.prog 14 #[.pointer none, .int .u64 i] w fun e w' => e = .returned (.tuple #[.nilIface, .int .i64 1]) ∧ w' = w := by
  go_enter Tryz.func14, Tryz.ntmps14
  go_wp2_with (go_at_call 43; refine (find_nil w i).mono ?_; rintro e w1 ⟨rfl, h1⟩; subst h1)
  go_ret2
  exact ⟨rfl, rfl⟩
theorem get_not (w : World) (s d : Nat) (os : List Ob) (sz : Nat) (cut : Bool) (F : Nat → Prop) (h : IsSt w s d os sz cut F) (i : Int) (h0 : 0 ≤ i) (h1 : i ≤ 18446744073709551615) (hf : findO os i = none) :
    Calls Tryz.prog 14 #[.pointer (some ⟨s, 0, none⟩), .int .u64 i] w fun e w' => e = .returned (.tuple #[.nilIface, .int .i64 4]) ∧ w' = w := by
  obtain ⟨j, b, M, v, FJ, O, h⟩ := h
  have hx := find_not w s d j b M v _ os sz cut FJ O F h i h0 h1 hf
  clear h
  go_enter Tryz.func14, Tryz.ntmps14
  go_wp2_with (go_at_call 43; refine hx.mono ?_; rintro e w1 ⟨rfl, h1⟩; subst h1)
  go_ret2
  exact ⟨rfl, rfl⟩
theorem get_there (w : World) (s d : Nat) (os : List Ob) (sz : Nat) (cut : Bool) (F : Nat → Prop) (h : IsSt w s d os sz cut F) (i : Int) (h0 : 0 ≤ i) (h1 : i ≤ 18446744073709551615) (o : Ob) (hf : findO os i = some o) :
    Calls Tryz.prog 14 #[.pointer (some ⟨s, 0, none⟩), .int .u64 i] w fun e w' => ∃ u, e = .returned (.tuple #[u, .int .i64 0]) ∧ Held (Fresh w.heap.size w') o u w' ∧ Below w.heap.size w w' := by
  obtain ⟨j, b, M, v, FJ, O, h⟩ := h
  have hx := find_there w s d j b M v _ os sz cut FJ O F h i h0 h1 o hf
  have hg : Hid (obErr o = 0) := h.good o (findO_mem hf).1
  clear h
  go_enter Tryz.func14, Tryz.ntmps14
  go_wp2_with first
    | (go_at_call 43; refine hx.mono ?_; clear hx; rintro e w1 ⟨u, rfl, hu, h1⟩; subst h1; have HU : Hid (Held O o u w1) := hu; clear hu)
    | (go_at_call 41; refine (Copy_ob _ HU.out.get hg.out).mono ?_; rintro e w2 ⟨u2, rfl, hu2, hB2⟩; have H2 : Hid (Held (Fresh w1.heap.size w2) o u2 w2) := hu2; clear hu2)
  go_ret2
  exact ⟨u2, rfl, H2.out, hB2⟩

theorem sbytes_nil (w : World) (i : Int) : Calls Tryz.prog 25 #[.pointer none, .int .u64 i] w fun e w' => e = .returned (.tuple #[.slice none 0 0, .int .i64 1]) ∧ w' = w := by
  go_enter Tryz.func25, Tryz.ntmps25
  go_wp2_with (go_at_call 43; refine (find_nil w i).mono ?_; rintro e w1 ⟨rfl, h1⟩; subst h1)
  go_ret2
  exact ⟨rfl, rfl⟩
theorem sbytes_there (w : World) (s d : Nat) (os : List Ob) (sz : Nat) (cut : Bool) (F : Nat → Prop) (h : IsSt w s d os sz cut F) (i : Int) (h0 : 0 ≤ i) (h1 : i ≤ 18446744073709551615) (o : Ob) (hf : findO os i = some o) :
    Calls Tryz.prog 25 #[.pointer (some ⟨s, 0, none⟩), .int .u64 i] w fun e w' => ∃ ad cp, e = .returned (.tuple #[.slice ad (obB o).length cp, .int .i64 0]) ∧ Bytes w' ad (obB o).length (obB o) ∧ Below w.heap.size w w' := by
  obtain ⟨j, b, M, v, FJ, O, h⟩ := h
  have hx := find_there w s d j b M v _ os sz cut FJ O F h i h0 h1 o hf
  have HE : Hid (∀ W u, ObS o u W → Calls Tryz.prog 35 #[u] W fun e w' => ∃ ad cp, e = .returned (.tuple #[.slice ad (obB o).length cp, .int .i64 0]) ∧ Bytes w' ad (obB o).length (obB o) ∧ Below W.heap.size W w') := fun W u hu => Encode_ob W hu.1 (h.good o (findO_mem hf).1)
  generalize obB o = T at *
  clear h
  go_enter Tryz.func25, Tryz.ntmps25
  go_wp2_with first
    | (go_at_call 43; refine hx.mono ?_; clear hx; rintro e w1 ⟨u, rfl, hu, h1⟩; subst h1; have HU : Hid (Held O o u w1) := hu; clear hu)
    | (go_at_call 35; refine (HE.out _ _ HU.out.get).mono ?_; rintro e w2 ⟨ad, cp, rfl, hy, hB2⟩)
  go_ret2
  exact ⟨ad, cp, rfl, hy, hB2⟩

theorem has_nil (w : World) (i : Int) : Calls Tryz.prog 16 #[.pointer none, .int .u64 i] w fun e w' => e = .returned (.bool false) ∧ w' = w := by
  go_enter Tryz.func16, Tryz.ntmps16
  go_wp2
  go_ret
  exact ⟨rfl, rfl⟩
theorem has_at (w : World) (s d j b : Nat) (M : DataW Value) (v : Value) (rs : List (List UInt8)) (os : List Ob) (sz : Nat) (cut : Bool) (FJ O F : Nat → Prop) (h : StAt w s d j b M v rs os sz cut FJ O F) (i : Int) (h0 : 0 ≤ i) (h1 : i ≤ 18446744073709551615) :
    Calls Tryz.prog 16 #[.pointer (some ⟨s, 0, none⟩), .int .u64 i] w fun e w' => e = .returned (.bool (findO os i).isSome) ∧ w' = w := by
  have c1 := h.c1
  obtain ⟨u, hl⟩ : ∃ u, (Instr.lookup 86 (.map (some b)) (.int .u64 i) true).run Tryz.prog w = .ok (.tuple #[u, .bool (findO os i).isSome]) w := by
    cases hf : findO os i with
    | none => exact ⟨_, h.not i h0 h1 hf w rfl⟩
    | some o =>
      obtain ⟨u, _, hl'⟩ := h.there i h0 h1 o hf
      exact ⟨u, hl' w rfl⟩
  generalize (findO os i).isSome = B at *
  clear h
  go_enter Tryz.func16, Tryz.ntmps16
  go_wp2
  go_ret
  exact ⟨rfl, rfl⟩
theorem has_any (w : World) (s d : Nat) (os : List Ob) (sz : Nat) (cut : Bool) (F : Nat → Prop) (h : IsSt w s d os sz cut F) (i : Int) (h0 : 0 ≤ i) (h1 : i ≤ 18446744073709551615) :
    Calls Tryz.prog 16 #[.pointer (some ⟨s, 0, none⟩), .int .u64 i] w fun e w' => e = .returned (.bool (findO os i).isSome) ∧ w' = w := by
  obtain ⟨j, b, M, v, FJ, O, h⟩ := h
  exact has_at w s d j b M v _ os sz cut FJ O F h i h0 h1

theorem slen_nil (w : World) : Calls Tryz.prog 27 #[.pointer none] w fun e w' => e = .returned (.int .i64 0) ∧ w' = w := by
  go_enter Tryz.func27, Tryz.ntmps27
  go_wp2
  go_ret
  exact ⟨rfl, rfl⟩
theorem slen_any (w : World) (s d : Nat) (os : List Ob) (sz : Nat) (cut : Bool) (F : Nat → Prop) (h : IsSt w s d os sz cut F) : Calls Tryz.prog 27 #[.pointer (some ⟨s, 0, none⟩)] w fun e w' => e = .returned (.int .i64 os.length) ∧ w' = w := by
  obtain ⟨j, b, M, v, FJ, O, h⟩ := h
  have c2 := h.c2
  obtain ⟨ad, c, rfl, _⟩ := row_shape h.row
  clear h
  generalize os.length = N at *
  go_enter Tryz.func27, Tryz.ntmps27
  go_wp2
  go_ret
  exact ⟨rfl, rfl⟩

theorem kindError_any (ok : Bool) (e0 : Int) (w : World) : Calls Tryz.prog 92 #[.bool ok, .int .i64 e0] w fun e w' => e = .returned (.int .i64 (if e0 = 0 ∧ ok = false then 170 else e0)) ∧ w' = w := by
  by_cases h0 : e0 = 0
  · subst h0
    cases ok
    · go_enter Tryz.func92, Tryz.ntmps92
      go_wp2
      go_ret
      exact ⟨rfl, rfl⟩
    · go_enter Tryz.func92, Tryz.ntmps92
      go_wp2
      go_ret
      exact ⟨rfl, rfl⟩
  · have e1 : (e0 == 0) = false := by simp [h0]
    rw [if_neg (fun h => h0 h.1)]
    go_enter Tryz.func92, Tryz.ntmps92
    go_wp2
    go_ret
    exact ⟨rfl, rfl⟩
end Go.Proofs.YthalpnpnbclipaaGreat

/- The walks of Blob, Tree and Commit. -/
namespace Go.Proofs.YthalpnpnbclipaaGreat
open Go.RowKit Go.Maps

attribute [local go_sem] Oper.semAt_some

def isTree : Ob → Bool
  | .tree _ => true
  | _ => false
def isCom : Ob → Bool
  | .com _ => true
  | _ => false
def obT : Ob → TypeId
  | .blob _ => 65
  | .tree _ => 69
  | .com _ => 39
theorem held_iface {O : Nat → Prop} {o : Ob} {v : Value} {W : World} (h : Held O o v W) : ∃ t u, v = .iface t u ∧ t = obT o := by
  have h := h.get.1
  cases o with
  | blob b => obtain ⟨ad, cp, rfl, _⟩ := h; exact ⟨_, _, rfl, rfl⟩
  | tree l => obtain ⟨ad, cp, rfl, _⟩ := h; exact ⟨_, _, rfl, rfl⟩
  | com c => obtain ⟨ad, cp, rfl, _⟩ := h; exact ⟨_, _, rfl, rfl⟩

set_option maxRecDepth 20000 in
set_option maxHeartbeats 4000000 in
theorem sasBlob_any (X : Value) (a : Option Addr) (n c : Nat) (ok : Bool) (e0 E : Int) (h1 : ∀ xT w, (Instr.typeAssert X xT 65 true).run Tryz.prog w = .ok (.tuple #[.agg #[.slice a n c], .bool ok]) w) (hE : E = if e0 = 0 ∧ ok = false then 170 else e0) (w : World) :
    Calls Tryz.prog 58 #[X, .int .i64 e0] w fun e w' => e = .returned (.tuple #[.agg #[.slice a n c], .int .i64 E]) ∧ Below w.heap.size w w' := by
  have hk := fun W => kindError_any ok e0 W
  rw [← hE] at hk
  clear hE
  go_enter Tryz.func58, Tryz.ntmps58
  go_wp2_with fail
  obtain ⟨W0, hW0⟩ : ∃ W0, W0 = ((w.alloc (.cells #[.slice none 0 0] 65)).alloc (.cells #[.slice a n c] 65)) := ⟨_, rfl⟩
  have HB0 : Hid (Below w.heap.size w W0) := (by rw [hW0]; exact ((Below.refl _ w).alloc (Nat.le_refl _) _).alloc (by simp) _ : Below w.heap.size w W0)
  have hk0 := hk W0.drew
  have b1 : Boxed W0 (w.heap.size + 1) 65 (.slice a n c) := by
    have := Boxed.new (w.alloc (.cells #[.slice none 0 0] 65)) 65 (.slice a n c)
    rw [World.size_alloc] at this
    rw [hW0]; exact this
  have b0 : Boxed W0 w.heap.size 65 (.slice none 0 0) := by rw [hW0]; exact (Boxed.new w _ _).alloc _
  have x1 := b1.cell
  have x0 := b0.cell
  have y0 := b0.frozen
  have z0 := (b0.set (.slice a n c)).cell
  rw [← hW0]
  clear hW0 hk
  go_region_held3 (fun W => W.cell? ⟨w.heap.size + 1, 0, none⟩ = some (.slice a n c) ∧ W.frozen? ⟨w.heap.size, 0, none⟩ = false)
    (first
      | (go_split_ands
         refine ⟨by go_keep, by go_keep⟩)
      | (go_split_ands
         exact ⟨x1, y0⟩))
    ((go_at_call 92; refine hk0.mono ?_; rintro e w' ⟨rfl, rfl⟩))
  go_wp2
  refine bodyPost_ret (v := .tuple #[.agg #[.slice a n c], .int .i64 E]) (by simp [results, Tryz.results58, go_sem, z0]) rfl ⟨rfl, ?_⟩
  have hBd : Below w.heap.size w W0.drew := ⟨HB0.out.os, HB0.out.tape, HB0.out.output, HB0.out.size, HB0.out.block⟩
  exact hBd.setCell (p := ⟨w.heap.size, 0, none⟩) (Nat.le_refl _) _
set_option maxRecDepth 20000 in
set_option maxHeartbeats 4000000 in
theorem sblob_of (w : World) (s : Value) (i : Int) (e0 E : Int) (Rx : Value → World → Prop) (hg : Calls Tryz.prog 14 #[s, .int .u64 i] (w.alloc (.cells #[.slice none 0 0] 65)) fun e w' => ∃ X, e = .returned (.tuple #[X, .int .i64 e0]) ∧ Rx X w' ∧ Below (w.alloc (.cells #[.slice none 0 0] 65)).heap.size (w.alloc (.cells #[.slice none 0 0] 65)) w')
    (hX : ∀ X W, Rx X W → ∃ a n c ok, (∀ xT w, (Instr.typeAssert X xT 65 true).run Tryz.prog w = .ok (.tuple #[.agg #[.slice a n c], .bool ok]) w) ∧ (E = if e0 = 0 ∧ ok = false then 170 else e0)) :
    Calls Tryz.prog 22 #[s, .int .u64 i] w fun e w' => ∃ a n c X W1, e = .returned (.tuple #[.agg #[.slice a n c], .int .i64 E]) ∧ Rx X W1 ∧ (∃ ok, ∀ xT w, (Instr.typeAssert X xT 65 true).run Tryz.prog w = .ok (.tuple #[.agg #[.slice a n c], .bool ok]) w) ∧ Below (w.alloc (.cells #[.slice none 0 0] 65)).heap.size (w.alloc (.cells #[.slice none 0 0] 65)) W1 ∧ Below w.heap.size w w' ∧ (∀ k, k ≠ w.heap.size → k < W1.heap.size → w'.heap[k]? = W1.heap[k]?) := by
  have hB0 : Below w.heap.size w (w.alloc (.cells #[.slice none 0 0] 65)) := (Below.refl _ w).alloc (Nat.le_refl _) _
  have HX : Hid (∀ X W, Rx X W → ∃ a n c ok, (∀ xT w, (Instr.typeAssert X xT 65 true).run Tryz.prog w = .ok (.tuple #[.agg #[.slice a n c], .bool ok]) w) ∧ (E = if e0 = 0 ∧ ok = false then 170 else e0)) := hX
  clear hX
  go_enter Tryz.func22, Tryz.ntmps22
  go_wp2_with first
    | (go_at_call 14; refine hg.mono ?_; clear hg; rintro e w0 ⟨X, rfl, hR0, hBg⟩; have HR : Hid (Rx X w0) := hR0; have HBg : Hid (Below (w.alloc (.cells #[.slice none 0 0] 65)).heap.size (w.alloc (.cells #[.slice none 0 0] 65)) w0) := hBg; obtain ⟨a, n, c, ok, hta, hE⟩ := HX.out X w0 hR0; have HTA : Hid (∀ xT w, (Instr.typeAssert X xT 65 true).run Tryz.prog w = .ok (.tuple #[.agg #[.slice a n c], .bool ok]) w) := hta; have HE : Hid (E = if e0 = 0 ∧ ok = false then 170 else e0) := hE; clear hR0 hBg hta hE)
    | (go_at_call 58; refine (sasBlob_any X a n c ok e0 E HTA.out HE.out _).mono ?_; rintro e w1 ⟨rfl, hB1⟩; have HB : Below (w.alloc (.cells #[.slice none 0 0] 65)).heap.size (w.alloc (.cells #[.slice none 0 0] 65)) w1 := HBg.out.trans (hB1.mono HBg.out.size); have hb : Boxed w1 w.heap.size 65 (.slice none 0 0) := (HB.block w.heap.size (by simp)).trans (World.alloc_heap_new _ _); have cb := hb.cell; have fb := hb.frozen)
  have c2 := (hb.set (.slice a n c)).cell
  refine bodyPost_ret (v := .tuple #[.agg #[.slice a n c], .int .i64 E]) (by simp [results, Tryz.results22, go_sem, c2]) rfl ⟨a, n, c, X, w0, rfl, HR.out, ⟨ok, HTA.out⟩, HBg.out, (hB0.trans (HB.mono (by simp))).setCell (p := ⟨w.heap.size, 0, none⟩) (Nat.le_refl _) _, fun k hk hl => ?_⟩
  rw [Below.heap_setCell _ _ _ _ (by exact hk)]
  exact hB1.block k hl
theorem sblob_nil (w : World) (i : Int) : Calls Tryz.prog 22 #[.pointer none, .int .u64 i] w fun e w' => ∃ a n c, e = .returned (.tuple #[.agg #[.slice a n c], .int .i64 1]) ∧ Below w.heap.size w w' := by
  refine (sblob_of w (.pointer none) i 1 1 (fun X _ => X = .nilIface) ((get_nil _ i).mono fun e w' h => ⟨_, h.1, rfl, h.2 ▸ Below.refl _ _⟩) ?_).mono ?_
  · rintro X W rfl
    exact ⟨none, 0, 0, false, nil_blob, rfl⟩
  · rintro e w' ⟨a, n, c, X, W1, he, _, _, _, hB, _⟩
    exact ⟨a, n, c, he, hB⟩
theorem sblob_no (w : World) (s d : Nat) (os : List Ob) (sz : Nat) (cut : Bool) (F : Nat → Prop) (h : IsSt w s d os sz cut F) (i : Int) (h0 : 0 ≤ i) (h1 : i ≤ 18446744073709551615) (o : Ob) (hf : findO os i = some o) (hk : isBlob o = false) :
    Calls Tryz.prog 22 #[.pointer (some ⟨s, 0, none⟩), .int .u64 i] w fun e w' => ∃ a n c, e = .returned (.tuple #[.agg #[.slice a n c], .int .i64 170]) ∧ Below w.heap.size w w' := by
  refine (sblob_of w (.pointer (some ⟨s, 0, none⟩)) i 0 170 (fun X W => ∃ O, Held O o X W) ((get_there _ s d os sz cut F (h.below ((Below.refl _ w).alloc (Nat.le_refl _) _)) i h0 h1 o hf).mono fun e w' ⟨u, h1, h2, h3⟩ => ⟨u, h1, ⟨_, h2⟩, h3⟩) ?_).mono ?_
  · rintro X W ⟨O, hX⟩
    obtain ⟨t, u, rfl, ht⟩ := held_iface hX
    refine ⟨none, 0, 0, false, no_blob t ?_ u, rfl⟩
    rw [ht]
    cases o <;> first | (cases hk; done) | (show obT _ ≠ _; simp [obT]; done) | (simp only [obT]; decide)
  · rintro e w' ⟨a, n, c, X, W1, he, _, _, _, hB, _⟩
    exact ⟨a, n, c, he, hB⟩
theorem sblob_yes (w : World) (s d : Nat) (os : List Ob) (sz : Nat) (cut : Bool) (F : Nat → Prop) (h : IsSt w s d os sz cut F) (i : Int) (h0 : 0 ≤ i) (h1 : i ≤ 18446744073709551615) (o : Ob) (hf : findO os i = some o) (hk : isBlob o = true) :
    Calls Tryz.prog 22 #[.pointer (some ⟨s, 0, none⟩), .int .u64 i] w fun e w' => ∃ a n c, e = .returned (.tuple #[.agg #[.slice a n c], .int .i64 0]) ∧ ObS o (.iface 65 (.agg #[.slice a n c])) w' ∧ Below w.heap.size w w' := by
  refine (sblob_of w (.pointer (some ⟨s, 0, none⟩)) i 0 0 (fun X W => Held (Fresh (w.heap.size + 1) W) o X W) ((get_there _ s d os sz cut F (h.below ((Below.refl _ w).alloc (Nat.le_refl _) _)) i h0 h1 o hf).mono fun e w' ⟨u, h1, h2, h3⟩ => ⟨u, h1, by rw [World.size_alloc] at h2; exact h2, h3⟩) ?_).mono ?_
  · rintro X W hX
    cases o <;> first | (cases hk; done) | skip
    obtain ⟨ad, cp, rfl, _⟩ := hX.get.1; exact ⟨ad, _, cp, true, as_blob _, rfl⟩
  · rintro e w' ⟨a, n, c, X, W1, he, hX, ⟨ok, hta⟩, hBW, hB, hsame⟩
    refine ⟨a, n, c, he, ?_, hB⟩
    have hX' := (hX.kept (W' := w') fun k hk => hsame k (by have := hk.1; omega) hk.lt).get
    obtain ⟨t0, u, rfl, ht⟩ := held_iface hX
    have h2 : t0 = 65 := by rw [ht]; cases o <;> first | (cases hk; done) | rfl
    subst h2
    have h3 := hta 0 w
    rw [as_blob] at h3
    cases h3
    exact hX'

set_option maxRecDepth 20000 in
set_option maxHeartbeats 4000000 in
theorem sasTree_any (X : Value) (a : Option Addr) (n c : Nat) (ok : Bool) (e0 E : Int) (h1 : ∀ xT w, (Instr.typeAssert X xT 69 true).run Tryz.prog w = .ok (.tuple #[.agg #[.slice a n c], .bool ok]) w) (hE : E = if e0 = 0 ∧ ok = false then 170 else e0) (w : World) :
    Calls Tryz.prog 59 #[X, .int .i64 e0] w fun e w' => e = .returned (.tuple #[.agg #[.slice a n c], .int .i64 E]) ∧ Below w.heap.size w w' := by
  have hk := fun W => kindError_any ok e0 W
  rw [← hE] at hk
  clear hE
  go_enter Tryz.func59, Tryz.ntmps59
  go_wp2_with fail
  obtain ⟨W0, hW0⟩ : ∃ W0, W0 = ((w.alloc (.cells #[.slice none 0 0] 69)).alloc (.cells #[.slice a n c] 69)) := ⟨_, rfl⟩
  have HB0 : Hid (Below w.heap.size w W0) := (by rw [hW0]; exact ((Below.refl _ w).alloc (Nat.le_refl _) _).alloc (by simp) _ : Below w.heap.size w W0)
  have hk0 := hk W0.drew
  have b1 : Boxed W0 (w.heap.size + 1) 69 (.slice a n c) := by
    have := Boxed.new (w.alloc (.cells #[.slice none 0 0] 69)) 69 (.slice a n c)
    rw [World.size_alloc] at this
    rw [hW0]; exact this
  have b0 : Boxed W0 w.heap.size 69 (.slice none 0 0) := by rw [hW0]; exact (Boxed.new w _ _).alloc _
  have x1 := b1.cell
  have x0 := b0.cell
  have y0 := b0.frozen
  have z0 := (b0.set (.slice a n c)).cell
  rw [← hW0]
  clear hW0 hk
  go_region_held3 (fun W => W.cell? ⟨w.heap.size + 1, 0, none⟩ = some (.slice a n c) ∧ W.frozen? ⟨w.heap.size, 0, none⟩ = false)
    (first
      | (go_split_ands
         refine ⟨by go_keep, by go_keep⟩)
      | (go_split_ands
         exact ⟨x1, y0⟩))
    ((go_at_call 92; refine hk0.mono ?_; rintro e w' ⟨rfl, rfl⟩))
  go_wp2
  refine bodyPost_ret (v := .tuple #[.agg #[.slice a n c], .int .i64 E]) (by simp [results, Tryz.results59, go_sem, z0]) rfl ⟨rfl, ?_⟩
  have hBd : Below w.heap.size w W0.drew := ⟨HB0.out.os, HB0.out.tape, HB0.out.output, HB0.out.size, HB0.out.block⟩
  exact hBd.setCell (p := ⟨w.heap.size, 0, none⟩) (Nat.le_refl _) _
set_option maxRecDepth 20000 in
set_option maxHeartbeats 4000000 in
theorem stree_of (w : World) (s : Value) (i : Int) (e0 E : Int) (Rx : Value → World → Prop) (hg : Calls Tryz.prog 14 #[s, .int .u64 i] (w.alloc (.cells #[.slice none 0 0] 69)) fun e w' => ∃ X, e = .returned (.tuple #[X, .int .i64 e0]) ∧ Rx X w' ∧ Below (w.alloc (.cells #[.slice none 0 0] 69)).heap.size (w.alloc (.cells #[.slice none 0 0] 69)) w')
    (hX : ∀ X W, Rx X W → ∃ a n c ok, (∀ xT w, (Instr.typeAssert X xT 69 true).run Tryz.prog w = .ok (.tuple #[.agg #[.slice a n c], .bool ok]) w) ∧ (E = if e0 = 0 ∧ ok = false then 170 else e0)) :
    Calls Tryz.prog 23 #[s, .int .u64 i] w fun e w' => ∃ a n c X W1, e = .returned (.tuple #[.agg #[.slice a n c], .int .i64 E]) ∧ Rx X W1 ∧ (∃ ok, ∀ xT w, (Instr.typeAssert X xT 69 true).run Tryz.prog w = .ok (.tuple #[.agg #[.slice a n c], .bool ok]) w) ∧ Below (w.alloc (.cells #[.slice none 0 0] 69)).heap.size (w.alloc (.cells #[.slice none 0 0] 69)) W1 ∧ Below w.heap.size w w' ∧ (∀ k, k ≠ w.heap.size → k < W1.heap.size → w'.heap[k]? = W1.heap[k]?) := by
  have hB0 : Below w.heap.size w (w.alloc (.cells #[.slice none 0 0] 69)) := (Below.refl _ w).alloc (Nat.le_refl _) _
  have HX : Hid (∀ X W, Rx X W → ∃ a n c ok, (∀ xT w, (Instr.typeAssert X xT 69 true).run Tryz.prog w = .ok (.tuple #[.agg #[.slice a n c], .bool ok]) w) ∧ (E = if e0 = 0 ∧ ok = false then 170 else e0)) := hX
  clear hX
  go_enter Tryz.func23, Tryz.ntmps23
  go_wp2_with first
    | (go_at_call 14; refine hg.mono ?_; clear hg; rintro e w0 ⟨X, rfl, hR0, hBg⟩; have HR : Hid (Rx X w0) := hR0; have HBg : Hid (Below (w.alloc (.cells #[.slice none 0 0] 69)).heap.size (w.alloc (.cells #[.slice none 0 0] 69)) w0) := hBg; obtain ⟨a, n, c, ok, hta, hE⟩ := HX.out X w0 hR0; have HTA : Hid (∀ xT w, (Instr.typeAssert X xT 69 true).run Tryz.prog w = .ok (.tuple #[.agg #[.slice a n c], .bool ok]) w) := hta; have HE : Hid (E = if e0 = 0 ∧ ok = false then 170 else e0) := hE; clear hR0 hBg hta hE)
    | (go_at_call 59; refine (sasTree_any X a n c ok e0 E HTA.out HE.out _).mono ?_; rintro e w1 ⟨rfl, hB1⟩; have HB : Below (w.alloc (.cells #[.slice none 0 0] 69)).heap.size (w.alloc (.cells #[.slice none 0 0] 69)) w1 := HBg.out.trans (hB1.mono HBg.out.size); have hb : Boxed w1 w.heap.size 69 (.slice none 0 0) := (HB.block w.heap.size (by simp)).trans (World.alloc_heap_new _ _); have cb := hb.cell; have fb := hb.frozen)
  have c2 := (hb.set (.slice a n c)).cell
  refine bodyPost_ret (v := .tuple #[.agg #[.slice a n c], .int .i64 E]) (by simp [results, Tryz.results23, go_sem, c2]) rfl ⟨a, n, c, X, w0, rfl, HR.out, ⟨ok, HTA.out⟩, HBg.out, (hB0.trans (HB.mono (by simp))).setCell (p := ⟨w.heap.size, 0, none⟩) (Nat.le_refl _) _, fun k hk hl => ?_⟩
  rw [Below.heap_setCell _ _ _ _ (by exact hk)]
  exact hB1.block k hl
theorem stree_nil (w : World) (i : Int) : Calls Tryz.prog 23 #[.pointer none, .int .u64 i] w fun e w' => ∃ a n c, e = .returned (.tuple #[.agg #[.slice a n c], .int .i64 1]) ∧ Below w.heap.size w w' := by
  refine (stree_of w (.pointer none) i 1 1 (fun X _ => X = .nilIface) ((get_nil _ i).mono fun e w' h => ⟨_, h.1, rfl, h.2 ▸ Below.refl _ _⟩) ?_).mono ?_
  · rintro X W rfl
    exact ⟨none, 0, 0, false, nil_tree, rfl⟩
  · rintro e w' ⟨a, n, c, X, W1, he, _, _, _, hB, _⟩
    exact ⟨a, n, c, he, hB⟩
theorem stree_no (w : World) (s d : Nat) (os : List Ob) (sz : Nat) (cut : Bool) (F : Nat → Prop) (h : IsSt w s d os sz cut F) (i : Int) (h0 : 0 ≤ i) (h1 : i ≤ 18446744073709551615) (o : Ob) (hf : findO os i = some o) (hk : isTree o = false) :
    Calls Tryz.prog 23 #[.pointer (some ⟨s, 0, none⟩), .int .u64 i] w fun e w' => ∃ a n c, e = .returned (.tuple #[.agg #[.slice a n c], .int .i64 170]) ∧ Below w.heap.size w w' := by
  refine (stree_of w (.pointer (some ⟨s, 0, none⟩)) i 0 170 (fun X W => ∃ O, Held O o X W) ((get_there _ s d os sz cut F (h.below ((Below.refl _ w).alloc (Nat.le_refl _) _)) i h0 h1 o hf).mono fun e w' ⟨u, h1, h2, h3⟩ => ⟨u, h1, ⟨_, h2⟩, h3⟩) ?_).mono ?_
  · rintro X W ⟨O, hX⟩
    obtain ⟨t, u, rfl, ht⟩ := held_iface hX
    refine ⟨none, 0, 0, false, no_tree t ?_ u, rfl⟩
    rw [ht]
    cases o <;> first | (cases hk; done) | (show obT _ ≠ _; simp [obT]; done) | (simp only [obT]; decide)
  · rintro e w' ⟨a, n, c, X, W1, he, _, _, _, hB, _⟩
    exact ⟨a, n, c, he, hB⟩
theorem stree_yes (w : World) (s d : Nat) (os : List Ob) (sz : Nat) (cut : Bool) (F : Nat → Prop) (h : IsSt w s d os sz cut F) (i : Int) (h0 : 0 ≤ i) (h1 : i ≤ 18446744073709551615) (o : Ob) (hf : findO os i = some o) (hk : isTree o = true) :
    Calls Tryz.prog 23 #[.pointer (some ⟨s, 0, none⟩), .int .u64 i] w fun e w' => ∃ a n c, e = .returned (.tuple #[.agg #[.slice a n c], .int .i64 0]) ∧ ObS o (.iface 69 (.agg #[.slice a n c])) w' ∧ Below w.heap.size w w' := by
  refine (stree_of w (.pointer (some ⟨s, 0, none⟩)) i 0 0 (fun X W => Held (Fresh (w.heap.size + 1) W) o X W) ((get_there _ s d os sz cut F (h.below ((Below.refl _ w).alloc (Nat.le_refl _) _)) i h0 h1 o hf).mono fun e w' ⟨u, h1, h2, h3⟩ => ⟨u, h1, by rw [World.size_alloc] at h2; exact h2, h3⟩) ?_).mono ?_
  · rintro X W hX
    cases o <;> first | (cases hk; done) | skip
    obtain ⟨ad, cp, rfl, _⟩ := hX.get.1; exact ⟨ad, _, cp, true, as_tree _, rfl⟩
  · rintro e w' ⟨a, n, c, X, W1, he, hX, ⟨ok, hta⟩, hBW, hB, hsame⟩
    refine ⟨a, n, c, he, ?_, hB⟩
    have hX' := (hX.kept (W' := w') fun k hk => hsame k (by have := hk.1; omega) hk.lt).get
    obtain ⟨t0, u, rfl, ht⟩ := held_iface hX
    have h2 : t0 = 69 := by rw [ht]; cases o <;> first | (cases hk; done) | rfl
    subst h2
    have h3 := hta 0 w
    rw [as_tree] at h3
    cases h3
    exact hX'
end Go.Proofs.YthalpnpnbclipaaGreat
