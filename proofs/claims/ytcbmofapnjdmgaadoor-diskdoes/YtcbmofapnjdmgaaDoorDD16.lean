import Derived.Test.YtcbmofapnjdmgaaDoorDD15
/- The walks of the reference disk's New, Name, Find and write. -/
namespace Go.Proofs.YtcbmofapnjdmgaaDoor
open Go.RowKit Go.Maps

set_option maxHeartbeats 1000000 in
theorem rnew_any (w : World) : Calls Tryd.prog 6 #[] w fun e w' => e = .returned (.pointer (some ⟨w.heap.size, 0, none⟩)) ∧ RefAt w' w.heap.size (.slice none 0 0) [] 0 (-1) (fun k => k = w.heap.size) ∧ Below w.heap.size w w' := by
  go_enter Tryd.func6, Tryd.ntmps6
  go_wp2
  go_ret
  refine ⟨rfl, ?_, (Below.refl _ _).alloc (Nat.le_refl _) _⟩
  exact { c0 := by simp, c1 := by simp, c2 := by simp, f0 := by simp, f1 := by simp, f2 := by simp, row := World.ownsRow_nil _ _ _ _, each := by simp, apart := by simp, ff := by simp [Value.ownBlock], fp := rfl, lt := fun k hk => by subst hk; simp }

set_option maxHeartbeats 1000000 in
theorem rname_any (s : ByteArray) (w : World) (hs : s.size ≤ maxLen) :
    Calls Tryd.prog 40 #[.string s] w fun e w' => e = .returned (.bool (nameB s.data.toList)) ∧ w' = w := by
  have hs' : s.size ≤ 9223372036854775807 := by unfold maxLen at hs; omega
  have hll : s.data.toList.length = s.size := by simp
  go_enter Tryd.func40, Tryd.ntmps40
  go_wp2
  go_loop [3] (fun i => ∃ k : Nat, k ≤ s.size ∧ i = .int .i64 k ∧ Hid (okTo s.data.toList k = true)) (fun i => s.size - (intOf i).toNat)
  case atStart => exact ⟨0, by omega, rfl, rfl⟩
  case round =>
    obtain ⟨k, hk, rfl, hok⟩ := hrel
    by_cases hlt : k < s.size
    · have i3 : (k : Int) < s.size := by omega
      have hbt : bt s.data.toList k = (s[k].toNat : Int) := by
        unfold bt
        congr 2
        simp [List.getD, hlt]
        rfl
      go_wp2
      all_goals first
        | (refine ⟨⟨k + 1, by omega, by simp, ?_⟩, by simp [intOf]; omega⟩
           show okTo s.data.toList (k + 1) = true
           rw [okTo_succ, hok.out, hbt]
           simp [okc]
           omega)
        | (refine ⟨⟨k + 1, by omega, by simp, ?_⟩, by simp [intOf]; omega⟩
           show okTo s.data.toList (k + 1) = true
           rw [okTo_succ, hok.out, hbt]
           unfold okc
           grind)
        | (go_ret
           refine ⟨?_, rfl⟩
           have hno : okc (bt s.data.toList k) = false := by rw [hbt]; unfold okc; grind
           have : nameB s.data.toList = false := by
             cases hnb : nameB s.data.toList with
             | false => rfl
             | true =>
               simp only [nameB, Bool.and_eq_true, decide_eq_true_eq] at hnb
               have := okTo_le _ (k + 1) _ hnb.2 (by omega)
               rw [okTo_succ, hno] at this
               simp at this
           rw [this]
           rfl)
    · have i3 : ¬ (k : Int) < s.size := by omega
      obtain rfl : k = s.size := by omega
      have hok' := hok.out
      have hnb : nameB s.data.toList = (decide (1 ≤ s.size) && decide (s.size ≤ 32)) := by
        simp [nameB, hok']
      have Hnb : Hid _ := hnb
      clear hnb
      by_cases h1 : 1 ≤ s.size
      · have j1 : (1 : Int) ≤ s.size := by omega
        by_cases h2 : s.size ≤ 32
        · have j2 : (s.size : Int) ≤ 32 := by omega
          go_wp2
          go_ret
          exact ⟨by rw [Hnb.out]; simp [h1, h2], rfl⟩
        · have j2 : ¬ (s.size : Int) ≤ 32 := by omega
          go_wp2
          go_ret
          exact ⟨by rw [Hnb.out]; simp [h2], rfl⟩
      · have j1 : ¬ (1 : Int) ≤ s.size := by omega
        go_wp2
        go_ret
        exact ⟨by rw [Hnb.out]; simp [h1], rfl⟩

theorem ix_step (is : List It) (s : ByteArray) (k : Nat) (i : It) (hk : is[k]? = some i) : ixTo is s (is.length - k) = if i.name = s then (k : Int) else ixTo is s (is.length - (k + 1)) := by
  have hlt := (List.getElem?_eq_some_iff.1 hk).1
  rw [show is.length - k = (is.length - (k + 1)) + 1 by omega, ixTo, show is.length - (is.length - (k + 1) + 1) = k by omega, hk]
  simp

set_option maxRecDepth 20000 in
set_option maxHeartbeats 2000000 in
theorem find_any (p : Nat) (fs : Value) (is : List It) (wr : Nat) (left : Int) (Fp : Nat → Prop) (w : World) (s : ByteArray) (h : RefAt w p fs is wr left Fp) :
    Calls Tryd.prog 39 #[.pointer (some ⟨p, 0, none⟩), .string s] w fun e w' => e = .returned (.int .i64 (ix is s)) ∧ Below w.heap.size w w' := by
  obtain ⟨ad, c, rfl, hnc, hcm, hnn, hcell⟩ := slice2 h.row rfl
  have c0 := h.c0
  have hlen : is.length ≤ 9223372036854775807 := by unfold maxLen at hcm; omega
  go_enter Tryd.func39, Tryd.ntmps39
  go_wp2_with fail
  go_loopw [12] (fun i wr => ∃ k : Nat, k ≤ is.length ∧ i = .int .i64 k ∧ Hid (ix is s = ixTo is s (is.length - k)) ∧ Below w.heap.size w wr) (fun i _ => is.length - (intOf i).toNat)
  case atStart => exact ⟨0, Nat.zero_le _, rfl, rfl, Below.refl _ _⟩
  case round =>
    obtain ⟨k, hk, rfl, HX, hB⟩ := hrel
    by_cases hlt : k < is.length
    · have i3 : (k : Int) < (is.length : Int) := by omega
      have i4 : (0 : Int) ≤ (k : Int) := by omega
      obtain ⟨i, hi⟩ : ∃ i, is[k]? = some i := ⟨is[k], by simp [hlt]⟩
      obtain ⟨g, rfl, q0, q1, _⟩ := hcell k i hi
      have hst := ix_step is s k i hi
      rw [← HX.out] at hst
      have q0' : wr.cell? ⟨g, k * 2, none⟩ = some (.string i.name) := by rw [hB.cell (World.block_lt_of_cell? w _ q0)]; exact q0
      have q1' : wr.cell? ⟨g, k * 2 + 1, none⟩ = some i.v := by rw [hB.cell (World.block_lt_of_cell? w _ q1)]; exact q1
      have Hst : Hid _ := hst
      obtain ⟨va, vn, vc, hv⟩ : ∃ a n c, i.v = .slice a n c := by
        obtain ⟨a, c, e, _⟩ := ownsRow_shape (h.each i (List.mem_of_getElem? hi)).1
        exact ⟨a, _, c, e⟩
      rw [hv] at q1'
      clear hst q0 q1 hcell HX
      by_cases hnm : i.name = s
      · have hb1 : (i.name.toList == s.toList) = true := by rw [hnm]; simp
        go_wp2
        go_ret
        exact ⟨by rw [Hst.out, if_pos hnm]; rfl, hB.alloc hB.size _⟩
      · have hb1 : (i.name.toList == s.toList) = false := by
          rw [ByteArray.toList_eq, ByteArray.toList_eq]
          have : ¬ i.name.data.toList = s.data.toList := fun e => hnm (bytes_ext e)
          simpa using this
        go_wp2
        refine ⟨⟨k + 1, by omega, by simp, ?_, hB.alloc hB.size _⟩, by simp [intOf]; omega⟩
        show _ = _
        rw [Hst.out, if_neg hnm]
    · have i3 : ¬ (k : Int) < (is.length : Int) := by omega
      obtain rfl : k = is.length := by omega
      have hx := HX.out
      rw [Nat.sub_self] at hx
      have Hx : Hid (ix is s = -1) := hx
      clear hx HX hcell
      go_wp2
      go_ret
      exact ⟨by rw [Hx.out]; rfl, hB⟩

set_option maxHeartbeats 1000000 in
theorem rwrite_any (p : Nat) (fs : Value) (is : List It) (wr : Nat) (left : Int) (Fp : Nat → Prop) (w : World) (h : RefAt w p fs is wr left Fp) (hw : wr < 4611686018427387904) (h0 : -1 ≤ left) (h1 : left ≤ 9223372036854775807) :
    Calls Tryd.prog 41 #[.pointer (some ⟨p, 0, none⟩)] w fun e w' => e = .returned (.bool (decide (left ≠ 0))) ∧ Turn (fun k => k = p) w w' ∧ w'.heap.size = w.heap.size ∧ RefAt w' p fs is (if left = 0 then wr else wr + 1) (if 0 < left then left - 1 else left) Fp := by
  have c1 := h.c1
  have c2 := h.c2
  have f1 := h.f1
  have f2 := h.f2
  by_cases hz : left = 0
  · subst hz
    have hR : Hid (RefAt w p fs is wr 0 Fp) := h
    clear h
    go_enter Tryd.func41, Tryd.ntmps41
    go_wp2
    go_ret
    exact ⟨by simp, Turn.refl _ _, rfl, by simpa using hR.out⟩
  · by_cases hp : 0 < left
    · have r1 := h.field 2 (.int .i64 (left - 1)) (by decide) wr (left - 1) (by rw [World.cell?_setCell_other _ _ _ _ (by simp)]; exact c1) (World.cell?_setCell_same _ _ _ c2)
      have r2 := r1.field 1 (.int .i64 ((wr : Int) + 1)) (by decide) (wr + 1) (left - 1) (by rw [World.cell?_setCell_same _ _ _ r1.c1]; rfl) (by rw [World.cell?_setCell_other _ _ _ _ (by simp)]; exact r1.c2)
      have hT := (turn_setCell w p 2 (.int .i64 (left - 1))).trans (turn_setCell _ p 1 (.int .i64 ((wr : Int) + 1))) (fun _ _ h => h)
      have HR : Hid _ := r2
      have HT : Hid _ := hT
      clear h r1 r2 hT
      go_enter Tryd.func41, Tryd.ntmps41
      go_wp2
      go_ret
      exact ⟨by simp, HT.out, by simp [World.setCell], by simpa [hz, hp] using HR.out⟩
    · have r2 := h.field 1 (.int .i64 ((wr : Int) + 1)) (by decide) (wr + 1) left (by rw [World.cell?_setCell_same _ _ _ c1]; rfl) (by rw [World.cell?_setCell_other _ _ _ _ (by simp)]; exact c2)
      have hT := turn_setCell w p 1 (.int .i64 ((wr : Int) + 1))
      have HR : Hid _ := r2
      have HT : Hid _ := hT
      clear h r2 hT
      go_enter Tryd.func41, Tryd.ntmps41
      go_wp2
      go_ret
      exact ⟨by simp, HT.out, by simp [World.setCell], by simpa [hz, hp] using HR.out⟩

end Go.Proofs.YtcbmofapnjdmgaaDoor

/- The walk of a step of the statements' own scripts. -/
namespace Go.Proofs.YtcbmofapnjdmgaaDoor
open Go.RowKit Go.Maps

/-- what a step leaves, and what it answers -/
def DG.step (S : DG) (o : GOp) (l : List UInt8) : DG × Int :=
  if o.four = 0 then S.app o.name.data.toList l else if o.four = 1 then S.trunc o.name.data.toList o.n else if o.four = 2 then S.renam o.name.data.toList o.to.data.toList else S.remove o.name.data.toList

end Go.Proofs.YtcbmofapnjdmgaaDoor
