import Derived.Test.YtggnglgehobglaaK29
/- What pieces tells, to a body that may speak of how much was drawn (gend.py, out of NPieces). -/
namespace Go.Proofs.Ytggnglgehobglaa
open Go.RowKit Go.Shelf

attribute [local go_sem] Oper.semAt_some

theorem PInv.nextD {s : ByteArray} {B it : Nat} {J : List (Pc s) → World → Prop} {b p : Nat} {pre : List (Pc s)} {wr : World} (h : PInv s B it J b p pre wr) (hJ : AbidesD it J) (hit : wr.heap[it]? = some (.stringIter s p)) (p' : Nat) :
    J pre (wr.putObj it (.stringIter s p')) ∧ Boxed (wr.putObj it (.stringIter s p')) B 9 (.string s) :=
  ⟨hJ pre wr _ (some it) h.j (grownBy_putObj' wr it _) rfl (fun r e => by cases e; exact ⟨Nat.le_refl _, _, hit, rfl⟩), (World.putObj_heap_other h.ne).trans h.box⟩

set_option maxRecDepth 100000 in
set_option maxHeartbeats 4000000 in
theorem pieces_tellsD (s : ByteArray) (hs : s.size ≤ maxLen) (w : World) (B : Nat) (hB : Boxed w B 9 (.string s)) (n : Nat) (hn : 1 ≤ n) :
    TellsD Fence.wide n Try.prog 72 #[.pointer (some ⟨B, 0, none⟩)] Pc.encs B (fun xs : List (Pc s) => xs.map Pc.at = pcs (bs s)) (fun pre : List (Pc s) => ∃ rest, pre.map Pc.at ++ rest = pcs (bs s)) w := by
  intro l J Jx W hW hJ hY h0
  have hs' : s.size ≤ 9223372036854775807 := by unfold maxLen at hs; omega
  have hBW : Boxed W B 9 (.string s) := (hW.block B hB.lt).trans hB
  have cB := hBW.cell
  refine callsIn_of_wp Try.func72 rfl trivial ?_ rfl
  simp only [Try.ntmps72, List.size_toArray, List.length_cons, List.length_nil, Nat.reduceAdd, Nat.reduceSub, Array.replicate_succ, Array.replicate_zero, List.push_toArray, List.append_toArray, List.nil_append, List.cons_append]
  by_cases hz : s.toList = []
  · gi_wp2
    refine bodyPost_ret (results_none rfl _ _ _) rfl ?_
    exact ⟨⟨_, rfl⟩, .inl ⟨[], by rw [toList_bs] at hz; rw [hz]; rfl, h0⟩⟩
  · have b1 : s.toList.isEmpty = false := by simpa using hz
    have hBlt := hBW.lt
    have H0 : Hid (PInv s B W.heap.size J 0 0 [] (W.iter s 0)) :=
      ⟨hJ [] W _ none h0 (World.grownBy_alloc W _ none) rfl (fun r e => by cases e), hBW.alloc _, by rw [toList_bs] at hz; simp [pcs, parts, hz], Nat.ne_of_lt hBlt⟩
    have HJ : Hid (AbidesD W.heap.size J) := hJ
    have HY : Hid (∀ pre x W1, J pre W1 → (∃ rest, (pre ++ [x]).map Pc.at ++ rest = pcs (bs s)) → YieldAt Fence.wide (n - 1) Try.prog l (Pc.encs x) W1 fun e W' => (e = .returned (.bool true) ∧ J (pre ++ [x]) W' ∧ KpB B W1 W') ∨ (e = .returned (.bool false) ∧ Jx (pre ++ [x]) W')) := hY
    clear hY hJ h0 hW hz
    gi_wp2
    gi_loopw [3] (fun v wr => ∃ (b p : Nat) (pre : List (Pc s)), b ≤ p ∧ p ≤ s.size ∧ v = .int .i64 (b : Int) ∧ wr.heap[W.heap.size]? = some (.stringIter s p) ∧ Hid (PInv s B W.heap.size J b p pre wr)) (fun _ wr => s.size - wr.iterPos W.heap.size)
    case atStart => exact ⟨0, 0, [], Nat.le_refl _, Nat.zero_le _, rfl, World.iter_heap _ _ _, H0⟩
    case round =>
      clear H0 cB
      obtain ⟨b, p, pre, hb, hp, rfl, hit, H⟩ := hrel
      by_cases hlt : p < s.size
      · obtain ⟨r, hr⟩ : ∃ r, r = (dec ((bs s).drop p)).1 := ⟨_, rfl⟩
        obtain ⟨d, hd⟩ : ∃ d, d = (dec ((bs s).drop p)).2 := ⟨_, rfl⟩
        have hne : (bs s).drop p ≠ [] := fun e => by
          have := congrArg List.length e
          rw [List.length_drop, bs_len] at this; simp at this; omega
        have hd1 : 1 ≤ d := by rw [hd]; exact dec_pos _
        have hd2 : p + d ≤ s.size := by
          have := dec_le _ hne
          rw [← hd, List.length_drop, bs_len] at this; omega
        have hdec : Utf8.decode s p = (r, d) := by rw [decode_dec, hr, hd]; rfl
        have hrle : r ≤ 2147483647 := by have := decode_le s p; rw [hdec] at this; exact this
        have hnx := run_next_at (P := Try.prog) wr W.heap.size s p hit hlt
        rw [hdec] at hnx
        have H2 := H.out.nextD HJ.out hit (p + d)
        have hit2 : (wr.putObj W.heap.size (.stringIter s (p + d))).heap[W.heap.size]? = some (.stringIter s (p + d)) := World.putObj_heap_same (Array.getElem?_eq_some_iff.1 hit).1
        have Hpos : Hid (wr.iterPos W.heap.size = p) := iterPos_of hit
        simp only at hnx
        obtain ⟨W2, hW2⟩ : ∃ W2, W2 = wr.putObj W.heap.size (.stringIter s (p + d)) := ⟨_, rfl⟩
        rw [← hW2] at hnx H2 hit2
        have Hn : Hid ((bs s).drop p ≠ []) := hne
        have Hr : Hid (r = (dec ((bs s).drop p)).1) := hr
        have Hd : Hid (d = (dec ((bs s).drop p)).2) := hd
        have HH2 : Hid (J pre W2 ∧ Boxed W2 B 9 (.string s)) := H2
        have cB := H2.2.cell
        clear hne hr hd hdec hW2 H2 hit
        by_cases h47 : r = 47
        · subst h47
          simp only [show ((47 : Nat) : Int) = 47 from rfl] at hnx
          have hxb : b + (s.extract b p).size ≤ s.size := by simp; omega
          have HS := H.out.stroke hb hlt Hr.out.symm Hd.out ⟨(b, s.extract b p), hxb⟩ rfl
          have hlen : ∃ rest, (pre ++ [(⟨(b, s.extract b p), hxb⟩ : Pc s)]).map Pc.at ++ rest = pcs (bs s) := ⟨_, HS.2.symm⟩
          have hY2 := HY.out pre ⟨(b, s.extract b p), hxb⟩ W2 HH2.out.1 hlen
          have HS' : Hid (pcs (bs s) = (pre ++ [(⟨(b, s.extract b p), hxb⟩ : Pc s)]).map Pc.at ++ offs (p + 1) (cutS (((bs s).take (p + 1)).drop (p + 1)) ((bs s).drop (p + 1)))) := HS.2
          have hd1' := HS.1
          clear HS hlen
          obtain ⟨fn, tmps, assign, body, hy, hR⟩ := hY2
          simp only [Pc.encs] at hy
          gi_wp2
          refine hR.mono ?_
          rintro e W3 (⟨rfl, hJ3, hk3⟩ | ⟨rfl, hJx3⟩)
          · have hit3 : W3.heap[W.heap.size]? = some (.stringIter s (p + 1)) := by rw [← hd1']; exact hk3.walks.same _ _ hit2 rfl
            have HI : Hid (PInv s B W.heap.size J (p + 1) (p + 1) (pre ++ [⟨(b, s.extract b p), hxb⟩]) W3) := ⟨hJ3, hk3.same.trans HH2.out.2, HS'.out, H.out.ne⟩
            clear hy hR hJ3 hk3 hnx cB hit2
            gi_wp2
            go_roundw
            case rel => exact ⟨p + 1, p + 1, _, Nat.le_refl _, by omega, by simp, hit3, HI⟩
            case measure => rw [Hpos.out, iterPos_of hit3]; omega
          · clear hy hR hnx cB hit2
            gi_wp2
            refine bodyPost_ret (results_none rfl _ _ _) rfl ?_
            exact ⟨⟨_, rfl⟩, .inr ⟨_, ⟨_, HS'.out.symm⟩, hJx3⟩⟩
        · have i47 : ¬ (r : Int) = 47 := by omega
          have HI : Hid (PInv s B W.heap.size J b (p + d) pre W2) := H.out.pass hb hlt (by rw [← Hr.out]; exact h47) Hd.out hd2 HH2.out
          gi_wp2
          go_roundw
          case rel => exact ⟨b, p + d, pre, by omega, hd2, rfl, hit2, HI⟩
          case measure => rw [Hpos.out, iterPos_of hit2]; omega
      · obtain rfl : p = s.size := by omega
        have hnx := run_next_over (P := Try.prog) wr W.heap.size s s.size hit hlt
        have cB := H.out.box.cell
        have hxb : b + (s.extract b s.size).size ≤ s.size := by simp; omega
        have HS := H.out.last ⟨(b, s.extract b s.size), hxb⟩ rfl
        have hlen : ∃ rest, (pre ++ [(⟨(b, s.extract b s.size), hxb⟩ : Pc s)]).map Pc.at ++ rest = pcs (bs s) := ⟨[], by rw [HS]; simp⟩
        have hY2 := HY.out pre ⟨(b, s.extract b s.size), hxb⟩ wr H.out.j hlen
        have HS' : Hid ((pre ++ [(⟨(b, s.extract b s.size), hxb⟩ : Pc s)]).map Pc.at = pcs (bs s)) := HS
        clear HS hlen
        obtain ⟨fn, tmps, assign, body, hy, hR⟩ := hY2
        simp only [Pc.encs] at hy
        gi_wp2
        refine hR.mono ?_
        rintro e W3 (⟨rfl, hJ3, hk3⟩ | ⟨rfl, hJx3⟩)
        · clear hy hR hnx cB
          gi_wp2
          go_end0
          exact ⟨⟨_, rfl⟩, .inl ⟨_, HS'.out, hJ3⟩⟩
        · clear hy hR hnx cB
          gi_wp2
          go_end0
          exact ⟨⟨_, rfl⟩, .inr ⟨_, ⟨[], by rw [HS'.out]; simp⟩, hJx3⟩⟩
end Go.Proofs.Ytggnglgehobglaa
