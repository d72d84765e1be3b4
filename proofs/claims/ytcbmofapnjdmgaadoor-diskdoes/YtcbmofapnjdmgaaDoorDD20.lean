import Derived.Test.YtcbmofapnjdmgaaDoorDD19
/- The walks of the reference disk's Remove, Rename and Truncate: it answers what the disk answers. -/
namespace Go.Proofs.YtcbmofapnjdmgaaDoor
open Go.RowKit Go.Maps

/-- block p of w is a reference disk that holds what S holds -/
def IsRef (w : World) (p : Nat) (S : DG) (Fp : Nat → Prop) : Prop := ∃ fs is left, RefAt w p fs is S.wr left Fp ∧ Match S is left

theorem IsRef.lt {w : World} {p : Nat} {S : DG} {Fp : Nat → Prop} (h : IsRef w p S Fp) (k : Nat) (hk : Fp k) : k < w.heap.size := by
  obtain ⟨_, _, _, h, _⟩ := h
  exact h.lt k hk
theorem IsRef.wide {w : World} {p : Nat} {S : DG} {Fp Gp : Nat → Prop} (h : IsRef w p S Fp) (hs : ∀ k, Fp k → Gp k) (hlt : ∀ k, Gp k → k < w.heap.size) : IsRef w p S Gp := by
  obtain ⟨fs, is, left, h, m⟩ := h
  exact ⟨fs, is, left, h.wide hs hlt, m⟩
theorem IsRef.turn {w w' : World} {p : Nat} {S : DG} {Fp Gp : Nat → Prop} (h : IsRef w p S Fp) (ht : Turn Gp w w') (hd : ∀ k, Fp k → ¬ Gp k) : IsRef w' p S Fp := by
  obtain ⟨fs, is, left, h, m⟩ := h
  exact ⟨fs, is, left, h.turn ht hd, m⟩
theorem IsRef.grow {w w' : World} {p : Nat} {S : DG} {Fp Gp : Nat → Prop} (h : IsRef w' p S Gp) (hF : ∀ k, Fp k → k < w.heap.size) (hG : ∀ k, Gp k → Fp k ∨ w.heap.size ≤ k) (hs : w.heap.size ≤ w'.heap.size) : IsRef w' p S (grow Fp w w') :=
  h.wide (fun k hk => (hG k hk).elim .inl (fun h1 => .inr ⟨h1, h.lt k hk⟩)) (fun k hk => hk.elim (fun h1 => Nat.lt_of_lt_of_le (hF k h1) hs) (fun h1 => h1.2))

theorem Match.bound {S : DG} {is : List It} {left : Int} (h : Match S is left) (hl : S.left ≤ 9223372036854775807) : -1 ≤ left ∧ left ≤ 9223372036854775807 := by
  rcases h.left with ⟨_, e⟩ | ⟨_, e⟩ <;> omega
theorem Match.can {S : DG} {is : List It} {left : Int} (h : Match S is left) : decide (left ≠ 0) = S.can := by
  rcases h.left with ⟨e1, e⟩ | ⟨e1, e⟩
  · simp [DG.can, e1, e]
  · rw [e]
    unfold DG.can
    rw [e1, Bool.eq_iff_iff]
    simp
theorem Match.done {S : DG} {is : List It} {left : Int} (h : Match S is left) (hc : S.can = true) : Match S.done is (if 0 < left then left - 1 else left) := by
  refine ⟨h.f, h.n, h.nd, ?_⟩
  rcases h.left with ⟨e1, e⟩ | ⟨e1, e⟩
  · refine .inl ⟨e1, ?_⟩
    rw [e]; decide
  · refine .inr ⟨e1, ?_⟩
    have : S.left ≠ 0 := by simpa [DG.can, e1] using hc
    rw [if_pos (by omega)]
    simp only [DG.done, e1, if_true]
    omega

/-- the reference disk counts a raw write, or does not do it -/
theorem rwrite_S (p : Nat) (fs : Value) (is : List It) (left : Int) (S : DG) (Fp : Nat → Prop) (w : World) (h : RefAt w p fs is S.wr left Fp) (hm : Match S is left) (hw : S.wr < 4611686018427387904) (hl : S.left ≤ 9223372036854775807) :
    Calls Tryd.prog 41 #[.pointer (some ⟨p, 0, none⟩)] w fun e w' => e = .returned (.bool S.can) ∧ Turn (fun k => k = p) w w' ∧ w'.heap.size = w.heap.size ∧
      (S.can = true → ∃ left', RefAt w' p fs is S.done.wr left' Fp ∧ Match S.done is left') ∧ (S.can = false → RefAt w' p fs is S.wr left Fp) := by
  have hb := hm.bound hl
  refine (rwrite_any p fs is S.wr left Fp w h hw hb.1 hb.2).mono fun e w' ⟨he, hT, hs, hR⟩ => ⟨by rw [he, hm.can], hT, hs, fun hc => ?_, fun hc => ?_⟩
  · have hz : ¬ left = 0 := by
      have := hm.can
      rw [hc] at this
      simpa using this
    rw [if_neg hz] at hR
    exact ⟨_, hR, hm.done hc⟩
  · have hz : left = 0 := by
      have := hm.can
      rw [hc] at this
      simpa using this
    rw [if_pos hz] at hR
    have h2 : (if 0 < left then left - 1 else left) = left := by rw [hz]; decide
    rw [h2] at hR
    exact hR

set_option maxRecDepth 20000 in
set_option maxHeartbeats 2000000 in
theorem rremove_any (p : Nat) (S : DG) (Fp : Nat → Prop) (w : World) (s : ByteArray) (h : IsRef w p S Fp) (hn : S.n ≤ 300) (hw : S.wr < 4611686018427387904) (hl : S.left ≤ 9223372036854775807) :
    Calls Tryd.prog 28 #[.pointer (some ⟨p, 0, none⟩), .string s] w fun e w' => e = .returned (.int .i64 (S.remove s.data.toList).2) ∧ IsRef w' p (S.remove s.data.toList).1 (grow Fp w w') ∧ Turn Fp w w' := by
  have hlt := h.lt
  obtain ⟨fs, is, left, hR, hM⟩ := h
  have hfind := find_any p fs is S.wr left Fp w s hR
  have hisn : is.length ≤ 300 := by rw [← hM.n]; exact hn
  cases hf : S.f s.data.toList with
  | none =>
    have e : S.remove s.data.toList = (S, 4) := by simp [DG.remove, hf]
    rw [e]
    rw [hM.ix_none s hf] at hfind
    go_enter Tryd.func28, Tryd.ntmps28
    go_wp2_with fail
    refine hfind.mono ?_
    rintro e w1 ⟨rfl, B1⟩
    go_wp2
    go_ret
    exact ⟨rfl, IsRef.grow ⟨fs, is, left, hR.below B1, hM⟩ hlt (fun k hk => .inl hk) B1.size, Turn.of_below Fp B1⟩
  | some bs =>
    obtain ⟨k, i, hix, _⟩ := hM.ix_some s bs hf
    rw [hix] at hfind
    have i0 : ¬ (k : Int) < 0 := by omega
    go_enter Tryd.func28, Tryd.ntmps28
    go_wp2_with fail
    refine hfind.mono ?_
    rintro e w1 ⟨rfl, B1⟩
    have hwr := rwrite_S p fs is left S Fp w1 (hR.below B1) hM hw hl
    cases hc : S.can with
    | false =>
      have e : S.remove s.data.toList = (S, 6) := by simp [DG.remove, hf, hc]
      rw [hc] at hwr
      go_wp2_with fail
      refine hwr.mono ?_
      rintro e w2 ⟨rfl, hT2, hs2, _, h2⟩
      have hT : Turn Fp w w2 := (Turn.of_below Fp B1).trans hT2 (fun i _ hi => by subst hi; exact hR.fp)
      have hend : IsRef w2 p S (grow Fp w w2) := IsRef.grow ⟨fs, is, left, h2 (by simp), hM⟩ hlt (fun k hk => .inl hk) hT.size
      clear h2 hT2 hs2 hwr
      go_wp2
      go_ret
      simp only [e]
      exact ⟨rfl, hend, hT⟩
    | true =>
      have e : S.remove s.data.toList = (S.done.rem s.data.toList, 0) := by simp [DG.remove, hf, hc]
      rw [hc] at hwr
      go_wp2_with fail
      refine hwr.mono ?_
      rintro e w2 ⟨rfl, hT2, hs2, h2, _⟩
      obtain ⟨left', hR2, hM2⟩ := h2 (by simp)
      have htk := take_any p fs is S.done.wr left' Fp w2 s hR2 hisn
      have hT : Turn Fp w w2 := (Turn.of_below Fp B1).trans hT2 (fun i _ hi => by subst hi; exact hR.fp)
      clear h2 hT2 hs2 hwr
      go_wp2_with fail
      refine htk.mono ?_
      rintro e w3 ⟨rfl, ⟨fs', hR3⟩, hT3⟩
      have hT' : Turn Fp w w3 := hT.trans hT3 (fun _ _ h => h)
      have hend : IsRef w3 p (S.done.rem s.data.toList) (grow Fp w w3) := IsRef.grow ⟨fs', _, left', hR3, hM2.rem s⟩ hlt (fun k hk => hk.elim .inl (fun h => .inr (by have := hT.size; omega))) hT'.size
      clear htk hR3 hT3 hT hR2 hM2
      go_wp2
      go_ret
      simp only [e]
      exact ⟨rfl, hend, hT'⟩

theorem flat2_set (is : List It) (k j : Nat) (i i' : It) (u : Value) (hk : is[k]? = some i) (hj : j < 2) (h : i'.cells = i.cells.set j u) : flat2 (is.set k i') = (flat2 is).set (k * 2 + j) u := by
  induction is generalizing k with
  | nil => simp at hk
  | cons a r ih =>
    cases k with
    | zero =>
      simp only [List.getElem?_cons_zero, Option.some.injEq] at hk
      subst hk
      have e : ∀ (b : It) (l : List It), flat2 (b :: l) = b.cells ++ flat2 l := fun b l => by simp [flat2]
      rw [List.set_cons_zero, e, e, h, Nat.zero_mul, Nat.zero_add, List.set_append_left _ _ (by simpa [It.cells] using hj)]
    | succ k =>
      have e : ∀ (b : It) (l : List It), flat2 (b :: l) = b.cells ++ flat2 l := fun b l => by simp [flat2]
      have l2 : a.cells.length = 2 := rfl
      rw [List.set_cons_succ, e, e, List.set_append_right _ _ (by omega), l2, show (k + 1) * 2 + j - 2 = k * 2 + j by omega, ih k (by simpa using hk)]

/-- a cell of the row of files is written -/
theorem RefAt.recell {w : World} {p g : Nat} {n c : Nat} {is : List It} {wr : Nat} {left : Int} {Fp : Nat → Prop} (h : RefAt w p (.slice (some ⟨g, 0, none⟩) n c) is wr left Fp) (k j : Nat) (i i' : It) (u : Value) (hk : is[k]? = some i) (hj : j < 2) (hc : i'.cells = i.cells.set j u)
    (hrow : w.ownsRow 0 5 1 i'.v i'.bs.length (cellsOf i'.bs)) (hown : i'.v.ownBlock = i.v.ownBlock) : RefAt (w.setCell ⟨g, k * 2 + j, none⟩ u) p (.slice (some ⟨g, 0, none⟩) n c) (is.set k i') wr left Fp := by
  have hgp := (h.ff g rfl).2
  have hrw := h.row
  have hlen : n = is.length := by
    obtain ⟨ad, c', e, _⟩ := slice2 hrw rfl
    cases e; rfl
  subst hlen
  have hmem := List.mem_of_getElem? hk
  refine { c0 := by rw [World.cell?_setCell_other _ _ _ _ (by intro e; have := congrArg Addr.block e; simp only at this; omega)]; exact h.c0, c1 := by rw [World.cell?_setCell_other _ _ _ _ (by intro e; have := congrArg Addr.block e; simp only at this; omega)]; exact h.c1, c2 := by rw [World.cell?_setCell_other _ _ _ _ (by intro e; have := congrArg Addr.block e; simp only at this; omega)]; exact h.c2, f0 := by rw [World.frozen?_setCell]; exact h.f0, f1 := by rw [World.frozen?_setCell]; exact h.f1, f2 := by rw [World.frozen?_setCell]; exact h.f2, row := ?_, each := ?_, apart := ?_, ff := h.ff, fp := h.fp, lt := fun k hk => by have := h.lt k hk; simpa [World.setCell] using this }
  · rw [List.length_set, flat2_set is k j i i' u hk hj hc]
    exact (hrw.stored _ _).1
  · intro b hb
    have hb' : b = i' ∨ b ∈ is := by
      rcases List.mem_or_eq_of_mem_set hb with h | h
      · exact .inr h
      · exact .inl h
    rcases hb' with rfl | hb'
    · refine ⟨ownsRow_move2 hrow (fun g' hg' => Below.heap_setCell _ _ _ _ (fun e => ?_)), fun g' hg' => ?_⟩
      · rw [hown] at hg'
        simp only at e
        exact ((h.each i hmem).2 g' hg').2.2 (by rw [e]; rfl)
      · rw [hown] at hg'
        exact (h.each i hmem).2 g' hg'
    · exact ⟨ownsRow_move2 (h.each b hb').1 (fun g' hg' => Below.heap_setCell _ _ _ _ (fun e => ((h.each b hb').2 g' hg').2.2 (by simp only at e; rw [e]; rfl))), (h.each b hb').2⟩
  · refine pairwise_set (fun a b hab g hb ha => hab g ha hb) h.apart k i' (fun j' b hj' hb g' hg' hg2 => ?_)
    rw [hown] at hg'
    have nd := List.pairwise_iff_getElem.1 h.apart
    obtain ⟨hj1, hj2⟩ := List.getElem?_eq_some_iff.1 hb
    obtain ⟨hk1, hk2⟩ := List.getElem?_eq_some_iff.1 hk
    rcases Nat.lt_or_gt_of_ne hj' with hlt | hgt
    · exact nd j' k hj1 hk1 hlt g' (by rw [hj2]; exact hg2) (by rw [hk2]; exact hg')
    · exact nd k j' hk1 hj1 hgt g' (by rw [hk2]; exact hg') (by rw [hj2]; exact hg2)

theorem drew_end {w w1 : World} {p g o : Nat} {v : Value} {S : DG} {Fp : Nat → Prop} (h : IsRef (w1.setCell ⟨g, o, none⟩ v) p S (Go.Proofs.YtcbmofapnjdmgaaDoor.grow Fp w (w1.setCell ⟨g, o, none⟩ v))) (hT : Turn Fp w (w1.setCell ⟨g, o, none⟩ v)) :
    IsRef (w1.drew.setCell ⟨g, o, none⟩ v) p S (Go.Proofs.YtcbmofapnjdmgaaDoor.grow Fp w (w1.drew.setCell ⟨g, o, none⟩ v)) ∧ Turn Fp w (w1.drew.setCell ⟨g, o, none⟩ v) := by
  have e : (w1.drew.setCell ⟨g, o, none⟩ v).heap = (w1.setCell ⟨g, o, none⟩ v).heap := rfl
  have h1 : IsRef (w1.drew.setCell ⟨g, o, none⟩ v) p S (Go.Proofs.YtcbmofapnjdmgaaDoor.grow Fp w (w1.setCell ⟨g, o, none⟩ v)) := h.turn (Gp := fun _ => False) ⟨rfl, rfl, rfl, Nat.le_refl _, fun _ _ _ => by rw [e]⟩ (fun _ _ => id)
  exact ⟨h1, ⟨hT.os, hT.tape, hT.output, hT.size, hT.block⟩⟩

/-- a row that is made shorter -/
theorem ownsRow_cut {w : World} {a : Option Addr} {m c : Nat} {l : List UInt8} (h : w.ownsRow 0 5 1 (.slice a m c) m (cellsOf l)) (n : Nat) (hn : n ≤ m) : w.ownsRow 0 5 1 (.slice a n c) n (cellsOf (l.take n)) := by
  have hl := h.1
  rw [cellsOf_length] at hl
  refine ⟨by rw [cellsOf_length]; simp; omega, ?_⟩
  rcases h.2 with ⟨e, h0⟩ | ⟨g, cap, cur, e, h1, h2, h3, h4, h5, h6⟩
  · cases e
    exact .inl ⟨by congr 1; omega, by omega⟩
  · cases e
    refine .inr ⟨g, _, cur, rfl, h1, h2, by omega, h4, h5, ?_⟩
    have : cellsOf (l.take n) = (cellsOf l).take n := by simp [cellsOf, List.map_take]
    rw [this, ← h6, List.take_take]
    congr 1
    omega

set_option maxRecDepth 20000 in
set_option maxHeartbeats 4000000 in
theorem rtruncate_any (p : Nat) (S : DG) (Fp : Nat → Prop) (w : World) (s : ByteArray) (n : Int) (h : IsRef w p S Fp) (hn : S.n ≤ 300) (hw : S.wr < 4611686018427387904) (hl : S.left ≤ 9223372036854775807) :
    Calls Tryd.prog 24 #[.pointer (some ⟨p, 0, none⟩), .string s, .int .i64 n] w fun e w' => e = .returned (.int .i64 (S.trunc s.data.toList n).2) ∧ IsRef w' p (S.trunc s.data.toList n).1 (grow Fp w w') ∧ Turn Fp w w' := by
  have hlt := h.lt
  obtain ⟨fs, is, left, hR, hM⟩ := h
  have hfind := find_any p fs is S.wr left Fp w s hR
  have hisn : is.length ≤ 300 := by rw [← hM.n]; exact hn
  have HS : ∀ w1, Below w.heap.size w w1 → IsRef w1 p S (Go.Proofs.YtcbmofapnjdmgaaDoor.grow Fp w w1) ∧ Turn Fp w w1 := fun w1 B1 => ⟨IsRef.grow ⟨fs, is, left, hR.below B1, hM⟩ hlt (fun k hk => .inl hk) B1.size, Turn.of_below Fp B1⟩
  cases hf : S.f s.data.toList with
  | none =>
    have e : S.trunc s.data.toList n = (S, 4) := by simp [DG.trunc, hf]
    rw [e]
    rw [hM.ix_none s hf] at hfind
    have HS' : Hid _ := HS
    clear HS
    go_enter Tryd.func24, Tryd.ntmps24
    go_wp2_with fail
    refine hfind.mono ?_
    rintro e w1 ⟨rfl, B1⟩
    go_wp2
    go_ret
    exact ⟨rfl, HS'.out _ B1⟩
  | some bs =>
    obtain ⟨k, i, hix, hk, hin, hib⟩ := hM.ix_some s bs hf
    rw [hix] at hfind
    obtain ⟨ad, c, rfl, hnc, hcm, _, hcell⟩ := slice2 hR.row rfl
    obtain ⟨g, rfl, q0, q1, qf⟩ := hcell k i hk
    have hkl := (List.getElem?_eq_some_iff.1 hk).1
    have hbsl : S.bs s.data.toList = bs := by simp [DG.bs, hf]
    obtain ⟨va, vc, hv, hvc, hvn⟩ := ownsRow_shape (hR.each i (List.mem_of_getElem? hk)).1
    have hrowi := (hR.each i (List.mem_of_getElem? hk)).1
    rw [hv] at q1 hrowi
    rw [hib] at q1 hvc hvn hrowi
    have i0 : ¬ (k : Int) < 0 := by omega
    have i1 : (0 : Int) ≤ (k : Int) := by omega
    have i2 : (k : Int) < (is.length : Int) := by omega
    have c0 := hR.c0
    have hcells : ∀ w1 : World, Below w.heap.size w w1 → w1.cell? ⟨p, 0, none⟩ = some (.slice (some ⟨g, 0, none⟩) is.length c) ∧ w1.cell? ⟨g, k * 2 + 1, none⟩ = some (.slice va bs.length vc) := fun w1 B1 => ⟨by rw [B1.cell (hR.lt p hR.fp)]; exact c0, by rw [B1.cell (World.block_lt_of_cell? w _ q1)]; exact q1⟩
    have HC : Hid _ := hcells
    have HS' : Hid _ := HS
    clear HS hcells hcell
    go_enter Tryd.func24, Tryd.ntmps24
    go_wp2_with fail
    refine hfind.mono ?_
    rintro e w1 ⟨rfl, B1⟩
    have c01 := (HC.out w1 B1).1
    have q11 := (HC.out w1 B1).2
    have hS1 := HS'.out w1 B1
    have HS1 : Hid _ := hS1
    clear hS1
    by_cases h1 : n < 0
    · have e : S.trunc s.data.toList n = (S, 2) := by simp [DG.trunc, hf, h1]
      go_wp2
      go_ret
      simp only [e]
      exact ⟨rfl, HS1.out⟩
    · by_cases h2 : (bs.length : Int) < n
      · have e : S.trunc s.data.toList n = (S, 2) := by simp [DG.trunc, hf, hbsl, h2]
        go_wp2
        go_ret
        simp only [e]
        exact ⟨rfl, HS1.out⟩
      · obtain ⟨m, rfl⟩ : ∃ m : Nat, n = (m : Int) := ⟨n.toNat, by omega⟩
        by_cases h3 : m = bs.length
        · have e : S.trunc s.data.toList m = (S, 0) := by
            unfold DG.trunc
            rw [hbsl, if_neg (by simp [hf]), if_neg (by omega), if_pos (by omega)]
          subst h3
          have He : Hid _ := e
          clear e
          go_wp2
          go_ret
          rw [He.out]
          exact ⟨rfl, HS1.out⟩
        · have h3' : ¬ (m : Int) = (bs.length : Int) := by omega
          have hwr := rwrite_S p _ is left S Fp w1 (hR.below B1) hM hw hl
          have hfpp := hR.fp
          have he : S.trunc s.data.toList m = if S.can = true then (S.done.set s.data.toList (bs.take m), 0) else (S, 6) := by
            unfold DG.trunc
            rw [hbsl, if_neg (by simp [hf]), if_neg (by omega), if_neg (by omega)]
            rfl
          have He : Hid _ := he
          clear he HS1
          cases hc : S.can with
          | false =>
            rw [hc] at hwr
            go_wp2_with fail
            refine hwr.mono ?_
            rintro e w2 ⟨rfl, hT2, hs2, _, h2'⟩
            have hT : Turn Fp w w2 := (Turn.of_below Fp B1).trans hT2 (fun i _ hi => by subst hi; exact hfpp)
            have hend : IsRef w2 p S (Go.Proofs.YtcbmofapnjdmgaaDoor.grow Fp w w2) := IsRef.grow ⟨_, is, left, h2' (by simp), hM⟩ hlt (fun k hk => .inl hk) hT.size
            have HE : Hid _ := hend
            clear h2' hT2 hs2 hwr hend
            go_wp2
            go_ret
            rw [He.out, hc]
            exact ⟨rfl, HE.out, hT⟩
          | true =>
            rw [hc] at hwr
            go_wp2_with fail
            refine hwr.mono ?_
            rintro e w2 ⟨rfl, hT2, hs2, h2', _⟩
            obtain ⟨left', hR2, hM2⟩ := h2' (by simp)
            have hT : Turn Fp w w2 := (Turn.of_below Fp B1).trans hT2 (fun i _ hi => by subst hi; exact hfpp)
            have c02 := hR2.c0
            have hgp := (hR2.ff g rfl).2
            have q12 : w2.cell? ⟨g, k * 2 + 1, none⟩ = some (.slice va bs.length vc) := hT2.cell q11 (by simpa using hgp)
            obtain ⟨_, _, e2, _, _, _, hcell2⟩ := slice2 hR2.row rfl
            obtain ⟨g2, eg, _, _, qf2⟩ := hcell2 k i hk
            cases e2
            cases eg
            have qf3 := qf2 (k * 2 + 1)
            have j1 : (m : Int) ≤ (vc : Int) := by omega
            have hrow2 : w2.ownsRow 0 5 1 (.slice va bs.length vc) bs.length (cellsOf bs) := by
              have := (hR2.each i (List.mem_of_getElem? hk)).1
              rw [hv, hib] at this
              exact this
            have hcut := ownsRow_cut hrow2 m (by omega)
            have hcut' : w2.ownsRow 0 5 1 (.slice va m vc) (bs.take m).length (cellsOf (bs.take m)) := by
              rw [show (bs.take m).length = m by simp; omega]
              exact hcut
            have hre := hR2.recell k 1 i ⟨i.name, .slice va m vc, bs.take m⟩ (.slice va m vc) hk (by omega) (by simp [It.cells]) hcut' (by rw [hv]; cases va <;> rfl)
            have hMm := hM2.put k i ⟨i.name, .slice va m vc, bs.take m⟩ hk rfl
            rw [show i.k = s.data.toList from It.k_eq.2 hin] at hMm
            have hT3 : Turn Fp w (w2.setCell ⟨g, k * 2 + 1, none⟩ (.slice va m vc)) := hT.trans (turn_setCell w2 g _ _) (fun i _ hi => by subst hi; exact (hR2.ff _ rfl).1)
            have HE : Hid (IsRef (w2.setCell ⟨g, k * 2 + 1, none⟩ (.slice va m vc)) p (S.done.set s.data.toList (bs.take m)) (Go.Proofs.YtcbmofapnjdmgaaDoor.grow Fp w (w2.setCell ⟨g, k * 2 + 1, none⟩ (.slice va m vc)))) := IsRef.grow ⟨_, _, left', hre, hMm⟩ hlt (fun k hk => .inl hk) hT3.size
            have HT3 : Hid _ := hT3
            clear h2' hT2 hs2 hwr hre hMm hT3 hR2 hM2 hrow2 hcut hcell2 qf2
            go_wp2_with fail
            go_region
            go_wp2
            go_ret
            rw [He.out, hc]
            refine ⟨rfl, ?_⟩
            exact drew_end HE.out HT3.out

end Go.Proofs.YtcbmofapnjdmgaaDoor
