import Derived.Test.YtiafhbpklddlnaaGreatDoorE16
import Derived.Test.YtiafhbpklddlnaaGreatDoorE20
/- The walks of Get, Len, grows and checkChange. -/
namespace Go.Proofs.YtiafhbpklddlnaaGreatDoor
open Go.RowKit Go.Maps

attribute [local go_sem] Oper.semAt_some

theorem rget_nil (w : World) (s : ByteArray) : Calls Tryz.prog 18 #[.pointer none, .string s] w fun e w' => e = .returned (.tuple #[.int .u64 0, .int .i64 1]) ∧ w' = w := by
  go_enter Tryz.func18, Tryz.ntmps18
  go_wp2
  go_ret2
  exact ⟨rfl, rfl⟩
theorem rget_any (w : World) (r d j b : Nat) (M : DataW Value) (rs : List (List UInt8)) (g : List UInt8 → Int) (n sz : Nat) (cut : Bool) (FJ F : Nat → Prop) (h : RfAt w r d j b M rs g n sz cut FJ F) (s : ByteArray) (hs : s.size ≤ maxLen) :
    Calls Tryz.prog 18 #[.pointer (some ⟨r, 0, none⟩), .string s] w fun e w' => e = .returned (.tuple #[.int .u64 (g (bs s)), .int .i64 (if g (bs s) = 0 then 4 else 0)]) ∧ w' = w := by
  have c1 := h.c1
  have hl := h.look s hs w rfl
  rw [show s.data.toList = bs s from rfl] at hl
  clear h
  generalize g (bs s) = x at *
  by_cases h0 : x = 0
  · subst h0
    rw [if_pos rfl]
    have e1 : ((0 : Int) != 0) = false := rfl
    rw [e1] at hl
    go_enter Tryz.func18, Tryz.ntmps18
    go_wp2
    go_ret2
    exact ⟨rfl, rfl⟩
  · rw [if_neg h0]
    have e1 : (x != 0) = true := by simp [h0]
    rw [e1] at hl
    go_enter Tryz.func18, Tryz.ntmps18
    go_wp2
    go_ret2
    exact ⟨rfl, rfl⟩

theorem rlen_nil (w : World) : Calls Tryz.prog 19 #[.pointer none] w fun e w' => e = .returned (.int .i64 0) ∧ w' = w := by
  go_enter Tryz.func19, Tryz.ntmps19
  go_wp2
  go_ret
  exact ⟨rfl, rfl⟩

/-- by how many names a change leaves more -/
def growR (g : List UInt8 → Int) (s : ByteArray) (i : Int) : Int := if i = 0 then -1 else if g (bs s) = 0 then 1 else 0
theorem grows_any (w : World) (r d j b : Nat) (M : DataW Value) (rs : List (List UInt8)) (g : List UInt8 → Int) (n sz : Nat) (cut : Bool) (FJ F : Nat → Prop) (h : RfAt w r d j b M rs g n sz cut FJ F) (s : ByteArray) (hs : s.size ≤ maxLen) (i : Int) :
    Calls Tryz.prog 55 #[.pointer (some ⟨r, 0, none⟩), .agg #[.string s, .int .u64 i]] w fun e w' => e = .returned (.int .i64 (growR g s i)) ∧ Below w.heap.size w w' := by
  have hB0 : Below w.heap.size w (w.alloc (.cells #[.string s, .int .u64 i] 38)) := (Below.refl _ w).alloc (Nat.le_refl _) _
  have hrl := h.lt r h.fs.1
  have c1 : (w.alloc (.cells #[.string s, .int .u64 i] 38)).cell? ⟨r, 1, none⟩ = some (.map (some b)) := (hB0.cell (p := ⟨r, 1, none⟩) hrl).trans h.c1
  have hl := fun k => h.get s hs ((w.alloc (.cells #[.string s, .int .u64 i] 38)).drewN k) ((show ((w.alloc (.cells #[.string s, .int .u64 i] 38)).drewN k).heap[b]? = (w.alloc (.cells #[.string s, .int .u64 i] 38)).heap[b]? by simp).trans (hB0.block b (h.lt b h.fs.2)))
  rw [show s.data.toList = bs s from rfl] at hl
  unfold growR
  clear h
  generalize g (bs s) = x at *
  by_cases h0 : i = 0
  · subst h0
    rw [if_pos rfl]
    go_enter Tryz.func55, Tryz.ntmps55
    go_wp2
    go_ret
    exact ⟨rfl, hB0⟩
  · rw [if_neg h0]
    have e0 : (i == 0) = false := beq_eq_false_iff_ne.2 h0
    by_cases h1 : x = 0
    · subst h1
      rw [if_pos rfl]
      go_enter Tryz.func55, Tryz.ntmps55
      go_wp2
      go_quiet (fail)
      go_wp2
      go_ret
      exact ⟨rfl, hB0.trans ⟨rfl, rfl, rfl, Nat.le_refl _, fun _ _ => rfl⟩⟩
    · rw [if_neg h1]
      have e1 : (x == 0) = false := beq_eq_false_iff_ne.2 h1
      go_enter Tryz.func55, Tryz.ntmps55
      go_wp2
      go_quiet (fail)
      go_wp2
      go_ret
      exact ⟨rfl, hB0.trans ⟨rfl, rfl, rfl, Nat.le_refl _, fun _ _ => rfl⟩⟩

/-- why a change may not stand behind those whose names A holds of -/
def chgErr (g : List UInt8 → Int) (A : List UInt8 → Bool) (s : ByteArray) (i : Int) : Int :=
  if (pathSpot (bs s)).1 ≠ 0 then ((pathSpot (bs s)).1 : Int) else if bs s = [] then 2 else if A (bs s) then 5 else if i = 0 ∧ g (bs s) = 0 then 4 else 0

set_option maxRecDepth 100000 in
set_option maxHeartbeats 4000000 in
theorem checkChange_any (w : World) (r d j b : Nat) (M : DataW Value) (rs : List (List UInt8)) (g : List UInt8 → Int) (n sz : Nat) (cut : Bool) (FJ F : Nat → Prop) (h : RfAt w r d j b M rs g n sz cut FJ F) (s : ByteArray) (hs : s.size ≤ maxLen) (i : Int)
    (ab : Nat) (A : List UInt8 → Bool) (hab : ab < w.heap.size) (hA : ∀ W : World, W.heap[ab]? = w.heap[ab]? → ∃ u, (Instr.lookup 108 (.map (some ab)) (.string s) true).run Tryz.prog W = .ok (.tuple #[.int .i64 u, .bool (A (bs s))]) W) :
    Calls Tryz.prog 54 #[.pointer (some ⟨r, 0, none⟩), .agg #[.string s, .int .u64 i], .map (some ab)] w fun e w' => e = .returned (.int .i64 (chgErr g A s i)) ∧ Below w.heap.size w w' := by
  have hB0 : Below w.heap.size w (w.alloc (.cells #[.string s, .int .u64 i] 38)) := (Below.refl _ w).alloc (Nat.le_refl _) _
  have hrl := h.lt r h.fs.1
  have hp := fun w => path_any s w hs
  have c1 := h.c1
  have hl := fun W hW => h.get s hs W hW
  rw [show s.data.toList = bs s from rfl] at hl
  have hbl := h.lt b h.fs.2
  unfold chgErr
  clear h
  have d0 : (w.alloc (.cells #[.string s, .int .u64 i] 38)).cell? ⟨w.heap.size, 0, none⟩ = some (.string s) := by simp only [World.cell?, World.alloc_heap_new]; rfl
  have d1 : (w.alloc (.cells #[.string s, .int .u64 i] 38)).cell? ⟨w.heap.size, 1, none⟩ = some (.int .u64 i) := by simp only [World.cell?, World.alloc_heap_new]; rfl
  simp only [spotV] at hp
  have hem : Hid (bs s = [] ↔ s.size = 0) := ⟨fun e => by have := bs_len s; rw [e] at this; simpa using this.symm, fun e => List.eq_nil_of_length_eq_zero (by rw [bs_len]; exact e)⟩
  generalize pathSpot (bs s) = se at *
  obtain ⟨se1, se2⟩ := se
  simp only at hp ⊢
  generalize g (bs s) = x at *
  by_cases h1 : se1 = 0
  · subst h1
    rw [if_neg (by simp)]
    simp only [show ((0 : Nat) : Int) = 0 from rfl] at hp
    by_cases h2 : s.size = 0
    · rw [if_pos (hem.out.2 h2)]
      obtain rfl : s = ⟨#[]⟩ := by
        obtain ⟨a⟩ := s
        have : a.size = 0 := h2
        rw [Array.eq_empty_of_size_eq_zero this]
      clear hem h2
      go_enter Tryz.func54, Tryz.ntmps54
      go_wp2_with (go_at_call 84; refine (hp _).mono ?_; clear hp; rintro e w2 ⟨rfl, hB2⟩; have hB3 := hB2.alloc hB2.size (.cells #[.int .i64 0, .int .i64 (se2 : Int)] 75); have hB4 : Below w.heap.size w (w2.alloc (.cells #[.int .i64 0, .int .i64 (se2 : Int)] 75)) := hB0.trans (hB3.mono (by simp)); have q0 := (hB3.cell (p := ⟨w.heap.size, 0, none⟩) (by simp)).trans d0; have q1 := (hB3.cell (p := ⟨w.heap.size, 1, none⟩) (by simp)).trans d1; have q2 := (hB4.cell (p := ⟨r, 1, none⟩) hrl).trans c1; obtain ⟨u, hu⟩ := hA _ (hB4.block ab hab); have hl2 := hl _ (hB4.block b hbl); have hl3 := fun k => hl ((w2.alloc (.cells #[.int .i64 0, .int .i64 (se2 : Int)] 75)).drewN k) (hB4.block b hbl); have HB : Hid (Below w.heap.size w (w2.alloc (.cells #[.int .i64 0, .int .i64 (se2 : Int)] 75))) := hB4; have hs2 := hB2.size; clear hA hl hB0 hB2 hB3 hB4)
      go_ret
      exact ⟨rfl, HB.out⟩
    · rw [if_neg (fun e => h2 (hem.out.1 e))]
      have h2' : s.toList.isEmpty = false := by
        have h : (s.toList == (⟨#[]⟩ : ByteArray).toList) = false := by
          rw [str_beq]
          exact decide_eq_false (fun e => h2 (hem.out.1 e))
        rw [show (⟨#[]⟩ : ByteArray).toList = [] from by simp] at h
        simpa using h
      clear hem
      generalize A (bs s) = y at *
      cases y
      · rw [if_neg (by simp)]
        by_cases h3 : i = 0
        · subst h3
          by_cases h4 : x = 0
          · subst h4
            rw [if_pos ⟨rfl, rfl⟩]
            go_enter Tryz.func54, Tryz.ntmps54
            go_wp2_with (go_at_call 84; refine (hp _).mono ?_; clear hp; rintro e w2 ⟨rfl, hB2⟩; have hB3 := hB2.alloc hB2.size (.cells #[.int .i64 0, .int .i64 (se2 : Int)] 75); have hB4 : Below w.heap.size w (w2.alloc (.cells #[.int .i64 0, .int .i64 (se2 : Int)] 75)) := hB0.trans (hB3.mono (by simp)); have q0 := (hB3.cell (p := ⟨w.heap.size, 0, none⟩) (by simp)).trans d0; have q1 := (hB3.cell (p := ⟨w.heap.size, 1, none⟩) (by simp)).trans d1; have q2 := (hB4.cell (p := ⟨r, 1, none⟩) hrl).trans c1; obtain ⟨u, hu⟩ := hA _ (hB4.block ab hab); have hl2 := hl _ (hB4.block b hbl); have hl3 := fun k => hl ((w2.alloc (.cells #[.int .i64 0, .int .i64 (se2 : Int)] 75)).drewN k) (hB4.block b hbl); have HB : Hid (Below w.heap.size w (w2.alloc (.cells #[.int .i64 0, .int .i64 (se2 : Int)] 75))) := hB4; have hs2 := hB2.size; clear hA hl hB0 hB2 hB3 hB4)
            go_quiet (fail)
            go_wp2
            go_ret
            exact ⟨rfl, HB.out.trans ⟨rfl, rfl, rfl, Nat.le_refl _, fun _ _ => rfl⟩⟩
          · rw [if_neg (fun e => h4 e.2)]
            have h4' : (x == 0) = false := beq_eq_false_iff_ne.2 h4
            go_enter Tryz.func54, Tryz.ntmps54
            go_wp2_with (go_at_call 84; refine (hp _).mono ?_; clear hp; rintro e w2 ⟨rfl, hB2⟩; have hB3 := hB2.alloc hB2.size (.cells #[.int .i64 0, .int .i64 (se2 : Int)] 75); have hB4 : Below w.heap.size w (w2.alloc (.cells #[.int .i64 0, .int .i64 (se2 : Int)] 75)) := hB0.trans (hB3.mono (by simp)); have q0 := (hB3.cell (p := ⟨w.heap.size, 0, none⟩) (by simp)).trans d0; have q1 := (hB3.cell (p := ⟨w.heap.size, 1, none⟩) (by simp)).trans d1; have q2 := (hB4.cell (p := ⟨r, 1, none⟩) hrl).trans c1; obtain ⟨u, hu⟩ := hA _ (hB4.block ab hab); have hl2 := hl _ (hB4.block b hbl); have hl3 := fun k => hl ((w2.alloc (.cells #[.int .i64 0, .int .i64 (se2 : Int)] 75)).drewN k) (hB4.block b hbl); have HB : Hid (Below w.heap.size w (w2.alloc (.cells #[.int .i64 0, .int .i64 (se2 : Int)] 75))) := hB4; have hs2 := hB2.size; clear hA hl hB0 hB2 hB3 hB4)
            go_quiet (fail)
            go_wp2
            go_ret
            exact ⟨rfl, HB.out.trans ⟨rfl, rfl, rfl, Nat.le_refl _, fun _ _ => rfl⟩⟩
        · rw [if_neg (fun e => h3 e.1)]
          have h3' : (i == 0) = false := beq_eq_false_iff_ne.2 h3
          go_enter Tryz.func54, Tryz.ntmps54
          go_wp2_with (go_at_call 84; refine (hp _).mono ?_; clear hp; rintro e w2 ⟨rfl, hB2⟩; have hB3 := hB2.alloc hB2.size (.cells #[.int .i64 0, .int .i64 (se2 : Int)] 75); have hB4 : Below w.heap.size w (w2.alloc (.cells #[.int .i64 0, .int .i64 (se2 : Int)] 75)) := hB0.trans (hB3.mono (by simp)); have q0 := (hB3.cell (p := ⟨w.heap.size, 0, none⟩) (by simp)).trans d0; have q1 := (hB3.cell (p := ⟨w.heap.size, 1, none⟩) (by simp)).trans d1; have q2 := (hB4.cell (p := ⟨r, 1, none⟩) hrl).trans c1; obtain ⟨u, hu⟩ := hA _ (hB4.block ab hab); have hl2 := hl _ (hB4.block b hbl); have hl3 := fun k => hl ((w2.alloc (.cells #[.int .i64 0, .int .i64 (se2 : Int)] 75)).drewN k) (hB4.block b hbl); have HB : Hid (Below w.heap.size w (w2.alloc (.cells #[.int .i64 0, .int .i64 (se2 : Int)] 75))) := hB4; have hs2 := hB2.size; clear hA hl hB0 hB2 hB3 hB4)
          go_quiet (fail)
          go_wp2
          go_ret
          exact ⟨rfl, HB.out.trans ⟨rfl, rfl, rfl, Nat.le_refl _, fun _ _ => rfl⟩⟩
      · rw [if_pos rfl]
        go_enter Tryz.func54, Tryz.ntmps54
        go_wp2_with (go_at_call 84; refine (hp _).mono ?_; clear hp; rintro e w2 ⟨rfl, hB2⟩; have hB3 := hB2.alloc hB2.size (.cells #[.int .i64 0, .int .i64 (se2 : Int)] 75); have hB4 : Below w.heap.size w (w2.alloc (.cells #[.int .i64 0, .int .i64 (se2 : Int)] 75)) := hB0.trans (hB3.mono (by simp)); have q0 := (hB3.cell (p := ⟨w.heap.size, 0, none⟩) (by simp)).trans d0; have q1 := (hB3.cell (p := ⟨w.heap.size, 1, none⟩) (by simp)).trans d1; have q2 := (hB4.cell (p := ⟨r, 1, none⟩) hrl).trans c1; obtain ⟨u, hu⟩ := hA _ (hB4.block ab hab); have hl2 := hl _ (hB4.block b hbl); have hl3 := fun k => hl ((w2.alloc (.cells #[.int .i64 0, .int .i64 (se2 : Int)] 75)).drewN k) (hB4.block b hbl); have HB : Hid (Below w.heap.size w (w2.alloc (.cells #[.int .i64 0, .int .i64 (se2 : Int)] 75))) := hB4; have hs2 := hB2.size; clear hA hl hB0 hB2 hB3 hB4)
        go_ret
        exact ⟨rfl, HB.out⟩
  · rw [if_pos h1]
    have h1' : ((se1 : Int) == 0) = false := beq_eq_false_iff_ne.2 (by omega)
    go_enter Tryz.func54, Tryz.ntmps54
    go_wp2_with (go_at_call 84; refine (hp _).mono ?_; clear hp; rintro e w2 ⟨rfl, hB2⟩; have hB3 := hB2.alloc hB2.size (.cells #[.int .i64 (se1 : Int), .int .i64 (se2 : Int)] 75); have hB4 : Below w.heap.size w (w2.alloc (.cells #[.int .i64 (se1 : Int), .int .i64 (se2 : Int)] 75)) := hB0.trans (hB3.mono (by simp)); have q0 := (hB3.cell (p := ⟨w.heap.size, 0, none⟩) (by simp)).trans d0; have q1 := (hB3.cell (p := ⟨w.heap.size, 1, none⟩) (by simp)).trans d1; have q2 := (hB4.cell (p := ⟨r, 1, none⟩) hrl).trans c1; obtain ⟨u, hu⟩ := hA _ (hB4.block ab hab); have hl2 := hl _ (hB4.block b hbl); have hl3 := fun k => hl ((w2.alloc (.cells #[.int .i64 (se1 : Int), .int .i64 (se2 : Int)] 75)).drewN k) (hB4.block b hbl); have HB : Hid (Below w.heap.size w (w2.alloc (.cells #[.int .i64 (se1 : Int), .int .i64 (se2 : Int)] 75))) := hB4; have hs2 := hB2.size; clear hA hl hB0 hB2 hB3 hB4)
    go_ret
    exact ⟨rfl, HB.out⟩
end Go.Proofs.YtiafhbpklddlnaaGreatDoor
