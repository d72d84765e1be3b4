import Derived.Test.YtcbmofapnjdmgaaDoorDD30
import Derived.Test.YtcbmofapnjdmgaaDoorDD27
import Derived.Test.YtcbmofapnjdmgaaDoorDD13
import Derived.Deep.CutBlock
/- The walk of the law's file: does a name answer what it must? -/
namespace Go.Proofs.YtcbmofapnjdmgaaDoor
open Go.RowKit Go.Maps

attribute [local go_sem] Oper.semAt_some

/-- a disk of the program's and one of the document's that hold the same -/
structure Pair2 (w : World) (p q : Nat) (S : DG) (Fp Gp : Nat → Prop) : Prop where
  d : IsDisk w p S Fp
  r : IsRef w q S Gp
  dis : ∀ k, Fp k → ¬ Gp k

set_option maxRecDepth 20000 in
set_option maxHeartbeats 4000000 in
theorem wfile_any (p q : Nat) (S : DG) (Fp Gp : Nat → Prop) (w : World) (h : Pair2 w p q S Fp Gp) (s : ByteArray) (hs : s.size ≤ maxLen) (hbig : (S.bs s.data.toList).length ≤ 4194304) :
    Calls Tryd.prog 18 #[.agg #[.pointer (some ⟨p, 0, none⟩), .pointer (some ⟨q, 0, none⟩)], .string s] w fun e w' => e = .returned (.bool true) ∧ Below w.heap.size w w' := by
  obtain ⟨hd, hr, hdis⟩ := h
  obtain ⟨fs, is, left, hR, hM⟩ := hr
  have hA : Below w.heap.size w (w.alloc (.cells #[.pointer (some ⟨p, 0, none⟩), .pointer (some ⟨q, 0, none⟩)] 29)) := (Below.refl _ w).alloc (Nat.le_refl _) _
  have HC : Hid (∀ W, Below (w.heap.size + 1) (w.alloc (.cells #[.pointer (some ⟨p, 0, none⟩), .pointer (some ⟨q, 0, none⟩)] 29)) W → W.cell? ⟨w.heap.size, 0, none⟩ = some (.pointer (some ⟨p, 0, none⟩)) ∧ W.cell? ⟨w.heap.size, 1, none⟩ = some (.pointer (some ⟨q, 0, none⟩)) ∧ Below w.heap.size w W ∧ w.heap.size + 1 ≤ W.heap.size) := fun W hW => by
    have hs : (w.alloc (.cells #[.pointer (some ⟨p, 0, none⟩), .pointer (some ⟨q, 0, none⟩)] 29)).heap.size = w.heap.size + 1 := by simp
    rw [← hs] at hW
    refine ⟨by rw [hW.cell (by simp)]; simp, by rw [hW.cell (by simp)]; simp, hA.trans (hW.mono hA.size), by rw [← hs]; exact hW.size⟩
  have hrd := fun W (hW : Below w.heap.size w W) => read_any p S Fp W s (hd.below hW) hs (by omega)
  have hsz := fun W (hW : Below w.heap.size w W) => size_any p S Fp W s (hd.below hW) hs
  have hfi := fun W (hW : Below w.heap.size w W) => find_any q fs is S.wr left Gp W s (hR.below hW)
  have HRd : Hid (∀ W, Below w.heap.size w W → Calls Tryd.prog 13 #[.pointer (some ⟨p, 0, none⟩), .string s] W fun e w' => ∃ a c, e = .returned (.tuple #[.slice a (S.bs s.data.toList).length c, .int .i64 (S.err s.data.toList)]) ∧
      w'.ownsRow W.heap.size 5 1 (.slice a (S.bs s.data.toList).length c) (S.bs s.data.toList).length (cellsOf (S.bs s.data.toList)) ∧ Below W.heap.size W w' ∧ (S.bs s.data.toList).length ≤ c ∧ (a = none → (S.bs s.data.toList).length = 0 ∧ c = 0)) := hrd
  have HSz : Hid (∀ W, Below w.heap.size w W → Calls Tryd.prog 38 #[.pointer (some ⟨p, 0, none⟩), .string s] W fun e w' => e = .returned (.tuple #[.int .i64 (S.bs s.data.toList).length, .int .i64 (S.err s.data.toList)]) ∧ w' = W) := hsz
  have HFi : Hid (∀ W, Below w.heap.size w W → Calls Tryd.prog 39 #[.pointer (some ⟨q, 0, none⟩), .string s] W fun e w' => e = .returned (.int .i64 (ix is s)) ∧ Below W.heap.size W w') := hfi
  clear hrd hsz hfi
  have B0 : Hid (Below (w.heap.size + 1) (w.alloc (.cells #[.pointer (some ⟨p, 0, none⟩), .pointer (some ⟨q, 0, none⟩)] 29)) (w.alloc (.cells #[.pointer (some ⟨p, 0, none⟩), .pointer (some ⟨q, 0, none⟩)] 29))) := Below.refl _ _
  cases hf : S.f s.data.toList with
  | none =>
    have e1 : S.bs s.data.toList = [] := by simp [DG.bs, hf]
    have e2 : S.err s.data.toList = 4 := by simp [DG.err, hf]
    have e3 : ix is s = -1 := hM.ix_none s hf
    rw [e1, e2] at HRd HSz
    rw [e3] at HFi
    go_enter Tryd.func18, Tryd.ntmps18
    go_wp2_with first
      | (go_at_call 39; go_loud (refine (HFi.out _ (HC.out _ H2.out).2.2.1).mono ?_; rintro e w3 ⟨rfl, hB3⟩; have H3 : Hid (Below (w.heap.size + 1) (w.alloc (.cells #[.pointer (some ⟨p, 0, none⟩), .pointer (some ⟨q, 0, none⟩)] 29)) w3) := H2.out.trans (hB3.mono (HC.out _ H2.out).2.2.2); obtain ⟨b0, b1, _⟩ := HC.out _ H3.out))
      | (go_at_call 38; go_loud (refine (HSz.out _ (HC.out _ H1.out).2.2.1).mono ?_; rintro e w2 ⟨rfl, hw2⟩; have H2 : Hid (Below (w.heap.size + 1) (w.alloc (.cells #[.pointer (some ⟨p, 0, none⟩), .pointer (some ⟨q, 0, none⟩)] 29)) w2) := (by rw [hw2]; exact H1.out); obtain ⟨b0, b1, _⟩ := HC.out _ H2.out; clear hw2))
      | (go_at_call 13; go_loud (refine (HRd.out _ (HC.out _ B0.out).2.2.1).mono ?_; rintro e w1 ⟨a, c, rfl, ho1, hB1, hc1, hn1⟩; have H1 : Hid (Below (w.heap.size + 1) (w.alloc (.cells #[.pointer (some ⟨p, 0, none⟩), .pointer (some ⟨q, 0, none⟩)] 29)) w1) := hB1.mono (by simp); obtain ⟨b0, b1, _⟩ := HC.out _ H1.out; clear ho1 hn1 hB1))
    exact bodyPost_ret (v := .bool true) (by simp [results, Tryd.results18, go_sem]) rfl ⟨rfl, (HC.out _ H3.out).2.2.1⟩
  | some bs =>
    have e1 : S.bs s.data.toList = bs := by simp [DG.bs, hf]
    have e2 : S.err s.data.toList = 0 := by simp [DG.err, hf]
    rw [e1] at hbig
    rw [e1, e2] at HRd HSz
    obtain ⟨k, i, e3, hi, hin, hib⟩ := hM.ix_some s bs hf
    rw [e3] at HFi
    obtain ⟨ad, cc, rfl, _, _, _, hcell⟩ := slice2 hR.row rfl
    obtain ⟨g, rfl, q0, q1, _⟩ := hcell k i hi
    have hie := (hR.each i (List.mem_of_getElem? hi)).1
    rw [hib] at hie
    obtain ⟨va, vc, hv, hvc, hvn⟩ := ownsRow_shape hie
    rw [hv] at q1 hie
    have hkl : (k : Int) < (is.length : Int) := by have := (List.getElem?_eq_some_iff.1 hi).1; omega
    have hk0 : (0 : Int) ≤ (k : Int) := by omega
    have HC2 : Hid (∀ W, Below w.heap.size w W → W.cell? ⟨q, 0, none⟩ = some (.slice (some ⟨g, 0, none⟩) is.length cc) ∧ W.cell? ⟨g, k * 2 + 1, none⟩ = some (.slice va bs.length vc) ∧ Bytes W va bs.length bs) := fun W hW =>
      ⟨(hR.below hW).c0, by rw [hW.cell (World.block_lt_of_cell? w _ q1)]; exact q1, (Turn.of_below (fun _ => False) hW).bytes (ownsRow_toBytes hie).1 (fun _ _ _ => id)⟩
    have hbn : (bs.length : Int) ≤ 9223372036854775807 := by omega
    clear hR hM hd hcell q0 q1 hie hf e1 e2 e3
    go_enter Tryd.func18, Tryd.ntmps18
    go_upto_block 0 with first
      | (go_at_call 21; go_loud (refine (equal_any w3 a1 va bs.length bs.length c1 vc bs bs HB1.out (HC2.out _ (HC.out _ H3.out).2.2.1).2.2).mono ?_; rw [decide_eq_true rfl]; rintro e w4 ⟨rfl, hw4⟩; subst hw4))
      | (go_at_call 39; go_loud (refine (HFi.out _ (HC.out _ H2.out).2.2.1).mono ?_; rintro e w3 ⟨rfl, hB3⟩; have H3 : Hid (Below (w.heap.size + 1) (w.alloc (.cells #[.pointer (some ⟨p, 0, none⟩), .pointer (some ⟨q, 0, none⟩)] 29)) w3) := H2.out.trans (hB3.mono (HC.out _ H2.out).2.2.2); have HO3 : Hid (w3.ownsRow 0 5 1 (.slice a1 bs.length c1) bs.length (cellsOf bs)) := ownsRow_zero (ownsRow_move HO.out (fun g hg => hB3.block g (HO.out.lt g hg).2)); have HB1 : Hid (Bytes w3 a1 bs.length bs) := (ownsRow_toBytes HO3.out).1; obtain ⟨b0, b1, _⟩ := HC.out _ H3.out; obtain ⟨d0, d1, _⟩ := HC2.out _ (HC.out _ H3.out).2.2.1; clear hB3))
      | (go_at_call 38; go_loud (refine (HSz.out _ (HC.out _ H1.out).2.2.1).mono ?_; rintro e w2 ⟨rfl, hw2⟩; have H2 : Hid (Below (w.heap.size + 1) (w.alloc (.cells #[.pointer (some ⟨p, 0, none⟩), .pointer (some ⟨q, 0, none⟩)] 29)) w2) := (by rw [hw2]; exact H1.out); have HO : Hid (w2.ownsRow (w.heap.size + 1) 5 1 (.slice a1 bs.length c1) bs.length (cellsOf bs)) := (by rw [hw2]; exact H1o.out); obtain ⟨b0, b1, _⟩ := HC.out _ H2.out; clear hw2))
      | (go_at_call 13; go_loud (refine (HRd.out _ (HC.out _ B0.out).2.2.1).mono ?_; rintro e w1 ⟨a1, c1, rfl, ho1, hB1, hc1, hn1⟩; have H1 : Hid (Below (w.heap.size + 1) (w.alloc (.cells #[.pointer (some ⟨p, 0, none⟩), .pointer (some ⟨q, 0, none⟩)] 29)) w1) := hB1.mono (by simp); have H1o : Hid (w1.ownsRow (w.heap.size + 1) 5 1 (.slice a1 bs.length c1) bs.length (cellsOf bs)) := (by have := ho1; rw [show (w.alloc (.cells #[.pointer (some ⟨p, 0, none⟩), .pointer (some ⟨q, 0, none⟩)] 29)).heap.size = w.heap.size + 1 by simp] at this; exact this); obtain ⟨b0, b1, _⟩ := HC.out _ H1.out; clear ho1 hB1))
    have HL : Hid (∃ xs, w4.ownsRow 0 5 1 (.slice a1 bs.length c1) bs.length xs ∧ (∀ g, (Value.slice a1 bs.length c1).ownBlock = some g → w.heap.size + 1 ≤ g) ∧ Below (w.heap.size + 1) (w.alloc (.cells #[.pointer (some ⟨p, 0, none⟩), .pointer (some ⟨q, 0, none⟩)] 29)) w4) := ⟨_, HO3.out, fun g hg => (HO.out.lt g hg).1, H3.out⟩
    clear H1o HO HO3 HB1 H1 H2 H3 d0 d1 b0 b1
    go_wp2_with fail
    go_loopw [76] (fun i wr => ∃ j : Nat, j ≤ bs.length ∧ i = .int .i64 (j : Int) ∧ Hid (∃ xs, wr.ownsRow 0 5 1 (.slice a1 bs.length c1) bs.length xs ∧ (∀ g, (Value.slice a1 bs.length c1).ownBlock = some g → w.heap.size + 1 ≤ g) ∧ Below (w.heap.size + 1) (w.alloc (.cells #[.pointer (some ⟨p, 0, none⟩), .pointer (some ⟨q, 0, none⟩)] 29)) wr)) (fun i _ => bs.length - (intOf i).toNat)
    case atStart => exact ⟨0, Nat.zero_le _, rfl, HL⟩
    case round =>
      clear HL
      obtain ⟨j, hj, rfl, H⟩ := hrel
      by_cases hlt : j < bs.length
      · have i2 : (j : Int) < (bs.length : Int) := by omega
        have i3 : (0 : Int) ≤ (j : Int) := by omega
        obtain ⟨xs, ho, hlo, hB⟩ := H.out
        rcases ho.2 with ⟨_, hz⟩ | ⟨gb, cap, cur, hg, _⟩
        · omega
        cases hg
        have f0 := ho.frozenAt j
        obtain ⟨u, hu⟩ : ∃ u, xs[j]? = some u := ⟨xs[j]'(by rw [ho.1]; omega), by simp⟩
        have c0 : wr.cell? ⟨gb, j, none⟩ = some u := by rw [ho.cellAt j (by omega)]; exact hu
        have hst := ho.stored j (.int .u8 170)
        have HN : Hid (∃ xs, (wr.setCell ⟨gb, j, none⟩ (.int .u8 170)).ownsRow 0 5 1 (.slice (some ⟨gb, 0, none⟩) bs.length c1) bs.length xs ∧ (∀ g, (Value.slice (some ⟨gb, 0, none⟩) bs.length c1).ownBlock = some g → w.heap.size + 1 ≤ g) ∧ Below (w.heap.size + 1) (w.alloc (.cells #[.pointer (some ⟨p, 0, none⟩), .pointer (some ⟨q, 0, none⟩)] 29)) (wr.setCell ⟨gb, j, none⟩ (.int .u8 170))) :=
          ⟨_, hst.1, hlo, hB.grown hst.2 (HC.out _ hB).2.2.2 (fun k hk => by cases hk; exact hlo gb rfl)⟩
        clear hst ho hlo hB hu H
        go_wp2
        exact ⟨⟨j + 1, by omega, by simp, HN⟩, by simp [intOf]; omega⟩
      · have i2 : ¬ (j : Int) < (bs.length : Int) := by omega
        obtain rfl : j = bs.length := by omega
        obtain ⟨xs, ho, hlo, hB⟩ := H.out
        obtain ⟨b0, b1, hBw, hsz⟩ := HC.out _ hB
        have HO : Hid ((wr.alloc (.cells #[.int .u8 170, .int .u8 170] 5)).ownsRow 0 5 1 (.slice a1 bs.length c1) bs.length xs) := ho.alloc _
        have HB : Hid (Bytes (wr.alloc (.cells #[.int .u8 170, .int .u8 170] 5)) (some ⟨wr.heap.size, 0, none⟩) 2 [170, 170]) := by
          refine ⟨rfl, fun _ => ⟨wr.heap.size, 0, rfl, fun i hi => ?_⟩⟩
          rcases (show i = 0 ∨ i = 1 by omega) with rfl | rfl <;> simp [bt]
        have HLo : Hid (∀ g, (Value.slice a1 bs.length c1).ownBlock = some g → w.heap.size + 1 ≤ g) := hlo
        have HBw : Hid (Below (w.heap.size + 1) (w.alloc (.cells #[.pointer (some ⟨p, 0, none⟩), .pointer (some ⟨q, 0, none⟩)] 29)) (wr.alloc (.cells #[.int .u8 170, .int .u8 170] 5))) := hB.alloc hsz _
        clear ho hlo H hB
        go_wp2_with first
          | (go_at_call 21; go_loud (refine (equal_any w6 a6 va bs.length bs.length c6 vc bs bs HB6.out (HC2.out _ (HC.out _ H6.out).2.2.1).2.2).mono ?_; rw [decide_eq_true rfl]; rintro e w7 ⟨rfl, hw7⟩; subst hw7))
          | (go_at_call 13; go_loud (refine (HRd.out _ (HC.out _ H5.out).2.2.1).mono ?_; rintro e w6 ⟨a6, c6, rfl, ho6, hB6, hc6, hn6⟩; have H6 : Hid (Below (w.heap.size + 1) (w.alloc (.cells #[.pointer (some ⟨p, 0, none⟩), .pointer (some ⟨q, 0, none⟩)] 29)) w6) := H5.out.trans (hB6.mono (HC.out _ H5.out).2.2.2); have HB6 : Hid (Bytes w6 a6 bs.length bs) := (ownsRow_toBytes ho6).1; obtain ⟨b0, b1, _⟩ := HC.out _ H6.out; obtain ⟨d0, d1, _⟩ := HC2.out _ (HC.out _ H6.out).2.2.1; clear ho6 hB6))
          | (at_builtin; go_loud (refine wpList_append_row _ rfl _ _ rfl (.slice a1 bs.length c1) bs.length xs rfl HO.out (some ⟨wr.heap.size, 0, none⟩) 2 2 [170, 170] rfl HB.out (fun h => by cases h) (by omega) ?_; intro v5 w5 ho5 hg5 hat5; obtain ⟨a5, c5, rfl, _⟩ := ownsRow_shape ho5; have H5 : Hid (Below (w.heap.size + 1) (w.alloc (.cells #[.pointer (some ⟨p, 0, none⟩), .pointer (some ⟨q, 0, none⟩)] 29)) w5) := HBw.out.grown hg5 (HC.out _ HBw.out).2.2.2 HLo.out; obtain ⟨b0, b1, _⟩ := HC.out _ H5.out; clear ho5 hg5 hat5))
        exact bodyPost_ret (v := .bool true) (by simp [results, Tryd.results18, go_sem]) rfl ⟨rfl, (HC.out _ H6.out).2.2.1⟩

end Go.Proofs.YtcbmofapnjdmgaaDoor
