/- What pieces tells, where the loop's body is told that each piece is the next one. -/
import Derived.Test.YtadmpobnpnbgoaaDoorRangeStop
namespace Go.Proofs.YtadmpobnpnbgoaaDoor
open Go.RowKit Go.Shelf

attribute [local go_sem] Oper.semAt_some

set_option maxRecDepth 100000 in
set_option maxHeartbeats 4000000 in
theorem pieces_told (s : ByteArray) (hs : s.size ≤ maxLen) (w : World) (B : Nat) (hB : Boxed w B 9 (.string s)) (n : Nat) (hn : 1 ≤ n)
    (l : Nat) (J Jx : List (Pc s) → World → Prop) (W : World) (hW : Below w.heap.size w W) (hJ : AbidesFrom W.heap.size J)
    (hY : ∀ pre x W1, J pre W1 → (∃ rest, (pre ++ [x]).map Pc.at ++ rest = pcs (bs s)) → YieldAt Fence.wide (n - 1) Tryd.prog l (Pc.encs x) W1 fun e W' => (e = .returned (.bool true) ∧ J (pre ++ [x]) W' ∧ KpB B W1 W') ∨ (e = .returned (.bool false) ∧ Jx (pre ++ [x]) W')) (h0 : J [] W) :
    CallsIn Fence.wide n Tryd.prog 52 (#[.func (.yield l) #[] #[]] ++ #[.pointer (some ⟨B, 0, none⟩)]) W fun e W' => (∃ v, e = .returned v) ∧ ((∃ xs : List (Pc s), xs.map Pc.at = pcs (bs s) ∧ J xs W') ∨ (∃ pre : List (Pc s), (∃ rest, pre.map Pc.at ++ rest = pcs (bs s)) ∧ Jx pre W')) := by
  have hs' : s.size ≤ 9223372036854775807 := by unfold maxLen at hs; omega
  have hBW : Boxed W B 9 (.string s) := (hW.block B hB.lt).trans hB
  have cB := hBW.cell
  refine callsIn_of_wp Tryd.func52 rfl trivial ?_ rfl
  simp only [Tryd.ntmps52, List.size_toArray, List.length_cons, List.length_nil, Nat.reduceAdd, Nat.reduceSub, Array.replicate_succ, Array.replicate_zero, List.push_toArray, List.append_toArray, List.nil_append, List.cons_append]
  by_cases hz : s.toList = []
  · gi_wp2
    refine bodyPost_ret (results_none rfl _ _ _) rfl ?_
    exact ⟨⟨_, rfl⟩, .inl ⟨[], by rw [toList_bs] at hz; rw [hz]; rfl, h0⟩⟩
  · have b1 : s.toList.isEmpty = false := by simpa using hz
    have hBlt := hBW.lt
    have H0 : Hid (PInv s B W.heap.size J 0 0 [] (W.iter s 0)) :=
      ⟨hJ [] W _ none h0 (World.grownBy_alloc W _ none) (fun r e => by cases e), hBW.alloc _, by rw [toList_bs] at hz; simp [pcs, parts, hz], Nat.ne_of_lt hBlt⟩
    have HJ : Hid (AbidesFrom W.heap.size J) := hJ
    have HY : Hid (∀ pre x W1, J pre W1 → (∃ rest, (pre ++ [x]).map Pc.at ++ rest = pcs (bs s)) → YieldAt Fence.wide (n - 1) Tryd.prog l (Pc.encs x) W1 fun e W' => (e = .returned (.bool true) ∧ J (pre ++ [x]) W' ∧ KpB B W1 W') ∨ (e = .returned (.bool false) ∧ Jx (pre ++ [x]) W')) := hY
    clear hY hJ h0 hW hz
    gi_wp2
    gi_loopw [3] (fun v wr => ∃ (b p : Nat) (pre : List (Pc s)), b ≤ p ∧ p ≤ s.size ∧ v = .int .i64 (b : Int) ∧ wr.heap[W.heap.size]? = some (.stringIter s p) ∧ Hid (PInv s B W.heap.size J b p pre wr)) (fun _ wr => s.size - wr.iterPos W.heap.size)
    case atStart => exact ⟨0, 0, [], Nat.le_refl _, Nat.zero_le _, rfl, World.iter_heap _ _ _, H0⟩
    case round =>
      clear H0 cB
      obtain ⟨b, p, pre, hb, hp, rfl, hit, H⟩ := hrel
      by_cases hlt : p < s.size
      · obtain ⟨r, hr⟩ : ∃ r, r = (dec ((bs s).drop p)).1 := ⟨_, rfl⟩
        obtain ⟨d, hd⟩ : ∃ d, d = (dec ((bs s).drop p)).2 := ⟨_, rfl⟩
        have hne : (bs s).drop p ≠ [] := fun e => by
          have := congrArg List.length e
          rw [List.length_drop, bs_len] at this; simp at this; omega
        have hd1 : 1 ≤ d := by rw [hd]; exact dec_pos _
        have hd2 : p + d ≤ s.size := by
          have := dec_le _ hne
          rw [← hd, List.length_drop, bs_len] at this; omega
        have hdec : Utf8.decode s p = (r, d) := by rw [decode_dec, hr, hd]; rfl
        have hrle : r ≤ 2147483647 := by have := decode_le s p; rw [hdec] at this; exact this
        have hnx := run_next_at (P := Tryd.prog) wr W.heap.size s p hit hlt
        rw [hdec] at hnx
        have H2 := H.out.next HJ.out hit (p + d)
        have hit2 : (wr.putObj W.heap.size (.stringIter s (p + d))).heap[W.heap.size]? = some (.stringIter s (p + d)) := World.putObj_heap_same (Array.getElem?_eq_some_iff.1 hit).1
        have Hpos : Hid (wr.iterPos W.heap.size = p) := iterPos_of hit
        simp only at hnx
        obtain ⟨W2, hW2⟩ : ∃ W2, W2 = wr.putObj W.heap.size (.stringIter s (p + d)) := ⟨_, rfl⟩
        rw [← hW2] at hnx H2 hit2
        have Hn : Hid ((bs s).drop p ≠ []) := hne
        have Hr : Hid (r = (dec ((bs s).drop p)).1) := hr
        have Hd : Hid (d = (dec ((bs s).drop p)).2) := hd
        have HH2 : Hid (J pre W2 ∧ Boxed W2 B 9 (.string s)) := H2
        have cB := H2.2.cell
        clear hne hr hd hdec hW2 H2 hit
        by_cases h47 : r = 47
        · subst h47
          simp only [show ((47 : Nat) : Int) = 47 from rfl] at hnx
          have hxb : b + (s.extract b p).size ≤ s.size := by simp; omega
          have HS := H.out.stroke hb hlt Hr.out.symm Hd.out ⟨(b, s.extract b p), hxb⟩ rfl
          have hlen : ∃ rest, (pre ++ [(⟨(b, s.extract b p), hxb⟩ : Pc s)]).map Pc.at ++ rest = pcs (bs s) := ⟨_, HS.2.symm⟩
          have hY2 := HY.out pre ⟨(b, s.extract b p), hxb⟩ W2 HH2.out.1 hlen
          have HS' : Hid (pcs (bs s) = (pre ++ [(⟨(b, s.extract b p), hxb⟩ : Pc s)]).map Pc.at ++ offs (p + 1) (cutS (((bs s).take (p + 1)).drop (p + 1)) ((bs s).drop (p + 1)))) := HS.2
          have hd1' := HS.1
          clear HS hlen
          obtain ⟨fn, tmps, assign, body, hy, hR⟩ := hY2
          simp only [Pc.encs] at hy
          gi_wp2
          refine hR.mono ?_
          rintro e W3 (⟨rfl, hJ3, hk3⟩ | ⟨rfl, hJx3⟩)
          · have hit3 : W3.heap[W.heap.size]? = some (.stringIter s (p + 1)) := by rw [← hd1']; exact hk3.walks.same _ _ hit2 rfl
            have HI : Hid (PInv s B W.heap.size J (p + 1) (p + 1) (pre ++ [⟨(b, s.extract b p), hxb⟩]) W3) := ⟨hJ3, hk3.same.trans HH2.out.2, HS'.out, H.out.ne⟩
            clear hy hR hJ3 hk3 hnx cB hit2
            gi_wp2
            go_roundw
            case rel => exact ⟨p + 1, p + 1, _, Nat.le_refl _, by omega, by simp, hit3, HI⟩
            case measure => rw [Hpos.out, iterPos_of hit3]; omega
          · clear hy hR hnx cB hit2
            gi_wp2
            refine bodyPost_ret (results_none rfl _ _ _) rfl ?_
            exact ⟨⟨_, rfl⟩, .inr ⟨_, ⟨_, HS'.out.symm⟩, hJx3⟩⟩
        · have i47 : ¬ (r : Int) = 47 := by omega
          have HI : Hid (PInv s B W.heap.size J b (p + d) pre W2) := H.out.pass hb hlt (by rw [← Hr.out]; exact h47) Hd.out hd2 HH2.out
          gi_wp2
          go_roundw
          case rel => exact ⟨b, p + d, pre, by omega, hd2, rfl, hit2, HI⟩
          case measure => rw [Hpos.out, iterPos_of hit2]; omega
      · obtain rfl : p = s.size := by omega
        have hnx := run_next_over (P := Tryd.prog) wr W.heap.size s s.size hit hlt
        have cB := H.out.box.cell
        have hxb : b + (s.extract b s.size).size ≤ s.size := by simp; omega
        have HS := H.out.last ⟨(b, s.extract b s.size), hxb⟩ rfl
        have hlen : ∃ rest, (pre ++ [(⟨(b, s.extract b s.size), hxb⟩ : Pc s)]).map Pc.at ++ rest = pcs (bs s) := ⟨[], by rw [HS]; simp⟩
        have hY2 := HY.out pre ⟨(b, s.extract b s.size), hxb⟩ wr H.out.j hlen
        have HS' : Hid ((pre ++ [(⟨(b, s.extract b s.size), hxb⟩ : Pc s)]).map Pc.at = pcs (bs s)) := HS
        clear HS hlen
        obtain ⟨fn, tmps, assign, body, hy, hR⟩ := hY2
        simp only [Pc.encs] at hy
        gi_wp2
        refine hR.mono ?_
        rintro e W3 (⟨rfl, hJ3, hk3⟩ | ⟨rfl, hJx3⟩)
        · clear hy hR hnx cB
          gi_wp2
          go_end0
          exact ⟨⟨_, rfl⟩, .inl ⟨_, HS'.out, hJ3⟩⟩
        · clear hy hR hnx cB
          gi_wp2
          go_end0
          exact ⟨⟨_, rfl⟩, .inr ⟨_, ⟨[], by rw [HS'.out]; simp⟩, hJx3⟩⟩

theorem lower_abides {β : Type} {B : Nat} {J : β → World → Prop} (h : Lower B J) : AbidesFrom B (fun s X => J s X ∧ B ≤ X.heap.size) := fun s X Y row hs hg hr =>
  ⟨h s X Y hs.1 hs.2 ⟨hg.os, hg.tape, hg.output, hg.size, fun k hk => hg.block k (by have := hs.2; omega) (fun e => by have := (hr k e.symm).1; omega)⟩, Nat.le_trans hs.2 hg.size⟩

theorem pieces_tells (s : ByteArray) (hs : s.size ≤ maxLen) (w : World) (B : Nat) (hB : Boxed w B 9 (.string s)) (n m : Nat) (hn : 1 ≤ n) (hm : m = n - 1) :
    TellsS Fence.wide n m Tryd.prog 52 #[.pointer (some ⟨B, 0, none⟩)] (Pc.encs (s := s)) (fun k => k = B) (fun xs => xs.map Pc.at = pcs (bs s)) (fun pre => ∃ rest, pre.map Pc.at ++ rest = pcs (bs s)) w := by
  subst hm
  intro l J Jx W hW hJ hJx hY h0
  refine (pieces_told s hs w B hB n hn l (fun p X => J p X ∧ W.heap.size ≤ X.heap.size) (fun p X => Jx p X ∧ W.heap.size ≤ X.heap.size) W hW (lower_abides hJ) ?_ ⟨h0, Nat.le_refl _⟩).mono ?_
  · rintro pre x W1 ⟨hj, hs1⟩ hsp
    obtain ⟨fn, tmps, assign, body, hy, hR⟩ := hY pre x W1 hj hs1 hsp
    refine ⟨fn, tmps, assign, body, hy, hR.mono ?_⟩
    have hBl : B < W1.heap.size := Nat.lt_of_lt_of_le hB.lt (Nat.le_trans hW.size hs1)
    rintro e W' (⟨rfl, hj', hk⟩ | ⟨rfl, hj', hk⟩)
    · exact .inl ⟨rfl, ⟨hj', Nat.le_trans hs1 hk.walks.size⟩, ⟨hk.walks, hk.same B (.inr rfl) hBl⟩⟩
    · exact .inr ⟨rfl, hj', Nat.le_trans hs1 hk.walks.size⟩
  · rintro e W' ⟨hv, (⟨xs, hS, hj, hs1⟩ | ⟨pre, hS, hj, hs1⟩)⟩
    · exact ⟨hv, hs1, .inl ⟨xs, hS, hj⟩⟩
    · exact ⟨hv, hs1, .inr ⟨pre, hS, hj⟩⟩
end Go.Proofs.YtadmpobnpnbgoaaDoor
