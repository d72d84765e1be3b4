/- What Names tells. -/
import Derived.Test.YtadmpobnpnbgoaaDoorNTold
import Derived.Test.YtadmpobnpnbgoaaDoorNSplit
namespace Go.Proofs.YtadmpobnpnbgoaaDoor
open Go.RowKit Go.Shelf

attribute [local go_sem] Oper.semAt_some

def numB (l : List ByteArray) : List (Nat × ByteArray) := l.zipIdx.map fun x => (x.2, x.1)
abbrev encsN (x : Nat × ByteArray) : Array Value := #[.int .i64 (x.1 : Int), .string x.2]
def namesB {s : ByteArray} (pre : List (Pc s)) : List ByteArray := pre.map fun x => x.1.2
/-- the names of a path -/
def namesOf (s : ByteArray) : List ByteArray := if isP (bs s) then (parts (bs s)).map mk else []
theorem numB_snoc (l : List ByteArray) (x : ByteArray) : numB (l ++ [x]) = numB l ++ [(l.length, x)] := by
  simp [numB, List.zipIdx_append]
theorem numB_pre (l r : List ByteArray) : ∃ t, numB l ++ t = numB (l ++ r) := ⟨(r.zipIdx l.length).map fun x => (x.2, x.1), by simp [numB, List.zipIdx_append]⟩
theorem offs_snd : ∀ (ns : List (List UInt8)) (b : Nat), (offs b ns).map Prod.snd = ns
  | [], _ => rfl
  | n :: r, b => by simp [offs, offs_snd r]
theorem names_told {s : ByteArray} (hI : isP (bs s) = true) {pre : List (Pc s)} {rest : List (Nat × List UInt8)} (h : pre.map Pc.at ++ rest = pcs (bs s)) : namesOf s = namesB pre ++ rest.map fun x => mk x.2 := by
  have h2 : (pcs (bs s)).map Prod.snd = parts (bs s) := offs_snd _ 0
  unfold namesOf
  rw [hI, if_pos rfl, ← h2, ← h, List.map_append, List.map_append, List.map_map, List.map_map, List.map_map]
  congr 1

theorem namesB_snoc {s : ByteArray} (pre : List (Pc s)) (x : Pc s) : numB (namesB (pre ++ [x])) = numB (namesB pre) ++ [(pre.length, x.1.2)] := by
  rw [show namesB (pre ++ [x]) = namesB pre ++ [x.1.2] by simp [namesB], numB_snoc]
  simp [namesB]

theorem Names_any (s : ByteArray) (w : World) : Calls Tryd.prog 17 #[.string s] w fun e w' => e = .returned (.func (.func 37) #[] #[.pointer (some ⟨w.heap.size, 0, none⟩)]) ∧ w' = w.alloc (.cells #[.string s] 9) := by
  go_enter Tryd.func17, Tryd.ntmps17
  go_wp2
  go_ret
  exact ⟨rfl, rfl⟩

structure NamesI {s : ByteArray} (W0 : World) (l nb pb : Nat) (J : List (Nat × ByteArray) → World → Prop) (pre : List (Pc s)) (W : World) : Prop where
  y : Boxed W W0.heap.size 52 (.func (.yield l) #[] #[])
  j : J (numB (namesB pre)) W
  n : Boxed W nb 3 (.int .i64 (pre.length : Int))
  p : Boxed W pb 9 (.string s)
  sz : W0.heap.size ≤ W.heap.size
structure NamesX {s : ByteArray} (W0 : World) (Jx : List (Nat × ByteArray) → World → Prop) (c : Code) (pre : List (Pc s)) (W : World) : Prop where
  c : c = .ret
  j : Jx (numB (namesB pre)) W
  sz : W0.heap.size ≤ W.heap.size
theorem namesI_lower {s : ByteArray} {W0 w4 : World} {l nb pb : Nat} {J : List (Nat × ByteArray) → World → Prop} (hJ : Lower W0.heap.size J) (h4 : W0.heap.size < w4.heap.size) (hn : nb < w4.heap.size) (hp : pb < w4.heap.size) : Lower w4.heap.size (NamesI (s := s) W0 l nb pb J) := fun _ _ _ h _ hB =>
  ⟨(hB.block _ h4).trans h.y, hJ _ _ _ h.j h.sz (hB.mono (by omega)), (hB.block _ hn).trans h.n, (hB.block _ hp).trans h.p, Nat.le_trans h.sz hB.size⟩
theorem namesX_lower {s : ByteArray} {W0 w4 : World} {Jx : List (Nat × ByteArray) → World → Prop} (hJ : Lower W0.heap.size Jx) (h4 : W0.heap.size ≤ w4.heap.size) (c : Code) : Lower w4.heap.size (NamesX (s := s) W0 Jx c) := fun _ _ _ h _ hB =>
  ⟨h.c, hJ _ _ _ h.j h.sz (hB.mono h4), Nat.le_trans h.sz hB.size⟩

set_option maxRecDepth 100000 in
set_option maxHeartbeats 4000000 in
theorem names_tells (s : ByteArray) (hs' : s.size ≤ 200000) (w : World) (B : Nat) (hB : Boxed w B 9 (.string s)) :
    TellsS Fence.wide 8 5 Tryd.prog 37 #[.pointer (some ⟨B, 0, none⟩)] encsN (fun _ => False) (fun xs => xs = numB (namesOf s)) (fun pre => ∃ rest, pre ++ rest = numB (namesOf s)) w := by
  intro l J Jx W hW hJ hJx hY h0
  have hs : s.size ≤ maxLen := by unfold maxLen; omega
  have hBW : Boxed W B 9 (.string s) := (hW.block B hB.lt).trans hB
  have hip := fun w => isPath_any s w hs
  have hpc := parts_count (bs s)
  rw [bs_len, ← pcs_len] at hpc
  obtain ⟨Wy, hWy⟩ : ∃ Wy, Wy = W.alloc (.cells #[.func (.yield l) #[] #[]] 52) := ⟨_, rfl⟩
  have hBy : Below W.heap.size W Wy := by rw [hWy]; exact (Below.refl _ W).alloc (Nat.le_refl _) _
  have hsy : Wy.heap.size = W.heap.size + 1 := by rw [hWy]; simp
  have bY : Boxed Wy W.heap.size 52 (.func (.yield l) #[] #[]) := by rw [hWy]; exact Boxed.new W _ _
  have cB : (W.alloc (.cells #[.func (.yield l) #[] #[]] 52)).cell? ⟨B, 0, none⟩ = some (.string s) := by rw [← hWy]; exact (hBy.cell (p := ⟨B, 0, none⟩) hBW.lt).trans hBW.cell
  have HJ : Hid (Lower W.heap.size J ∧ Lower W.heap.size Jx ∧ J [] W) := ⟨hJ, hJx, h0⟩
  have HY : Hid (∀ pre x W1, J pre W1 → W.heap.size ≤ W1.heap.size → (∃ rest, (pre ++ [x]) ++ rest = numB (namesOf s)) → YieldAt Fence.wide 5 Tryd.prog l (encsN x) W1 fun e W' =>
      (e = .returned (.bool true) ∧ J (pre ++ [x]) W' ∧ Kept W.heap.size (fun _ => False) W1 W') ∨ (e = .returned (.bool false) ∧ Jx (pre ++ [x]) W' ∧ Kept W.heap.size (fun _ => False) W1 W')) := hY
  have HB : Hid (∀ W', Below Wy.heap.size Wy W' → W'.cell? ⟨B, 0, none⟩ = some (.string s)) := fun W' h => (h.cell (p := ⟨B, 0, none⟩) (Nat.lt_of_lt_of_le hBW.lt hBy.size)).trans ((hBy.cell (p := ⟨B, 0, none⟩) hBW.lt).trans hBW.cell)
  have HWy : Hid (Wy = W.alloc (.cells #[.func (.yield l) #[] #[]] 52)) := hWy
  clear hY hJ hJx h0 hW hB hBW hWy
  refine callsIn_of_wp_marks Tryd.func37 rfl trivial ?_ rfl
  simp only [Tryd.ntmps37, List.size_toArray, List.length_cons, List.length_nil, Nat.reduceAdd, Nat.reduceSub, Array.replicate_succ, Array.replicate_zero, List.push_toArray, List.append_toArray, List.nil_append, List.cons_append]
  refine wpIn_wide.2 ?_
  cases hI : isP (bs s) with
  | false =>
    rw [hI] at hip
    have HE : Hid (namesOf s = []) := by show _ = _; unfold namesOf; rw [hI]; rfl
    clear bY
    go_wp2_with (go_at_call 38; refine (hip _).mono ?_; clear hip; rintro e w1 ⟨rfl, hB1⟩)
    rw [← HWy.out] at hB1
    have t := hBy.trans (hB1.mono hBy.size)
    refine ret_m (results_none rfl _ _ _) ⟨⟨_, rfl⟩, t.size, .inl ⟨_, rfl, ?_⟩⟩
    rw [HE.out]
    exact HJ.out.1 _ _ _ HJ.out.2.2 (Nat.le_refl _) t
  | true =>
    rw [hI] at hip
    have HI : Hid (isP (bs s) = true) := hI
    clear hI
    go_wp2_with first
      | (go_at_call 38; refine (hip _).mono ?_; clear hip; rintro e w1 ⟨rfl, hB1⟩; rw [← HWy.out] at hB1; have cB1 := HB.out (w1.alloc (.cells #[.int .i64 0] 3)) (hB1.alloc hB1.size _); clear cB)
      | (go_at_call 35; refine (pieces_any s _).mono ?_; rintro e w' ⟨rfl, rfl⟩)
    obtain ⟨w4, hw4⟩ : ∃ w4, w4 = (w1.alloc (.cells #[.int .i64 0] 3)).alloc (.cells #[.string s] 9) := ⟨_, rfl⟩
    have hs1 := hB1.size
    have hs4 : w4.heap.size = w1.heap.size + 2 := by rw [hw4]; simp
    have hB14 : Below w1.heap.size w1 w4 := by rw [hw4]; exact ((Below.refl _ w1).alloc (Nat.le_refl _) _).alloc (by simp) _
    have hW4 : Below W.heap.size W w4 := by
      have t := hBy.trans (hB1.mono hBy.size)
      exact t.trans (hB14.mono t.size)
    have bN : Boxed w4 w1.heap.size 3 (.int .i64 0) := by
      rw [hw4]; exact (Boxed.new w1 3 (.int .i64 0)).alloc _
    have bP : Boxed w4 (w1.heap.size + 1) 9 (.string s) := by
      have := Boxed.new (w1.alloc (.cells #[.int .i64 0] 3)) 9 (.string s)
      rw [World.size_alloc] at this
      rw [hw4]; exact this
    have bY4 : Boxed w4 W.heap.size 52 (.func (.yield l) #[] #[]) := (hB14.block _ (by omega)).trans ((hB1.block _ (by omega)).trans bY)
    have hJ4 := HJ.out.1 _ _ _ HJ.out.2.2 (Nat.le_refl _) hW4
    try rw [← hw4]
    clear hw4
    refine (wpIn_wide (n := 8)).1 ?_
    refine range_stops (n := 8) (m := 6) (w := w4) rfl (by omega) (gf := 52) (lb := #[.pointer (some ⟨w1.heap.size + 1, 0, none⟩)]) rfl trivial (enters_of Tryd.func52 (by kernel_rfl) rfl)
      (pieces_tells s hs w4 (w1.heap.size + 1) bP 7 6 (by omega) rfl) (fun k hk => by omega) (fun _ => rfl)
      (NamesI W l w1.heap.size (w1.heap.size + 1) J) (NamesX W Jx) (namesI_lower HJ.out.1 (by omega) (by omega) (by omega)) (namesX_lower HJ.out.2.1 (by omega))
      ⟨bY4, hJ4, bN, bP, by omega⟩ ?act ?assign ?body ?done ?stop
    case assign =>
      intro l x W K hK
      gi_wp2
      exact hK
    case body =>
      rintro l' pre x W1 hW1 hI hsp
      obtain ⟨rest, hsp⟩ := hsp
      have hnt := names_told HI.out hsp
      have hY := HY.out (numB (namesB pre)) (pre.length, x.1.2) W1 hI.j hI.sz (by
        obtain ⟨t, ht⟩ := numB_pre (namesB (pre ++ [x])) (rest.map fun x => mk x.2)
        refine ⟨t, ?_⟩
        rw [hnt, ← ht]
        congr 1
        rw [show namesB (pre ++ [x]) = namesB pre ++ [x.1.2] by simp [namesB], numB_snoc]
        simp [namesB])
      have hpl : pre.length < (pcs (bs s)).length := by rw [← hsp]; simp
      have cY := hI.y.cell
      have cN := hI.n.cell
      have H : Hid (NamesI W l w1.heap.size (w1.heap.size + 1) J pre W1) := hI
      obtain ⟨q, hq⟩ : ∃ q, q = pre.length := ⟨_, rfl⟩
      have HQ : Hid (q = pre.length) := hq
      rw [← hq] at hY cN hpl
      clear hI hsp hnt hq bN bP bY4 hJ4 bY cB1
      obtain ⟨fn, tmps, assign, body, hy, hR⟩ := hY
      simp only [encsN] at hy
      gi_wp2
      refine RoundIn.mono (F := Fence.wide.inRound l') hR ?_
      rintro e W2 (⟨rfl, hj, hk⟩ | ⟨rfl, hj, hk⟩)
      · have hn2 : Boxed W2 w1.heap.size 3 (.int .i64 (q : Int)) := (hk.same _ (.inl (by omega)) H.out.n.lt).trans (by rw [HQ.out]; exact H.out.n)
        have cN2 := hn2.cell
        have fN2 := hn2.frozen
        have HK : Hid (J (numB (namesB pre) ++ [(q, x.1.2)]) W2 ∧ Kept W.heap.size (fun _ => False) W1 W2 ∧ Boxed W2 w1.heap.size 3 (.int .i64 (q : Int))) := ⟨hj, hk, hn2⟩
        clear hy hR hj hk hn2 cY cN
        gi_wp2
        obtain ⟨hj, hk, hn2⟩ := HK.out
        have hsz : W.heap.size ≤ W2.heap.size := Nat.le_trans H.out.sz hk.walks.size
        refine ⟨⟨hk.walks.trans (KeepsOthers.setCell _ _ _).walks, fun k hk' hlt => ?_⟩, ?_, ?_, ?_, ?_, ?_⟩
        · rw [Below.heap_setCell _ _ _ _ (show k ≠ w1.heap.size by rcases hk' with h | h <;> omega)]
          exact hk.same k (.inl (by rcases hk' with h | h <;> omega)) hlt
        · exact Boxed.other ((hk.same _ (.inl (Nat.le_refl _)) H.out.y.lt).trans H.out.y) (by omega) _
        · rw [namesB_snoc, ← HQ.out]
          exact HJ.out.1 _ _ _ hj hsz ((Below.refl _ W2).setCell (p := ⟨w1.heap.size, 0, none⟩) (by show W.heap.size ≤ w1.heap.size; omega) _)
        · rw [List.length_append, List.length_singleton, ← HQ.out]
          exact hn2.set _
        · exact Boxed.other ((hk.same _ (.inl (by omega)) H.out.p.lt).trans H.out.p) (by omega) _
        · simp only [World.size_setCell]; exact hsz
      · have HK : Hid (Jx (numB (namesB pre) ++ [(q, x.1.2)]) W2 ∧ Kept W.heap.size (fun _ => False) W1 W2) := ⟨hj, hk⟩
        clear hy hR hj hk cY cN
        gi_wp2
        obtain ⟨hj, hk⟩ := HK.out
        refine ⟨⟨hk.walks, fun k hk' hlt => hk.same k (.inl (by rcases hk' with h | h <;> omega)) hlt⟩, rfl, ?_, Nat.le_trans H.out.sz hk.walks.size⟩
        rw [namesB_snoc, ← HQ.out]; exact hj
    case done =>
      rintro D xs W1 hD hS hI hK
      have H : Hid (NamesI W l w1.heap.size (w1.heap.size + 1) J xs W1 ∧ W1.heap[D]? = some (.deferred (some [])) ∧ w4.heap.size ≤ D ∧ xs.map Pc.at = pcs (bs s)) := ⟨hI, hK, hD, hS⟩
      clear hI hS hK hD bN bP bY4 hJ4 bY cB1
      gi_wp2
      go_wp2_with fail
      obtain ⟨hI, hK, hD, hS⟩ := H.out
      have hnt := names_told HI.out (rest := []) (by rw [List.append_nil]; exact hS)
      rw [List.map_nil, List.append_nil] at hnt
      refine ⟨by simp, .inl ⟨_, _, rfl, run_takeDeferred hK, ?_⟩⟩
      refine ⟨_, results_none rfl _ _ _, ⟨_, rfl⟩, by rw [putS]; exact hI.sz, .inl ⟨_, rfl, ?_⟩⟩
      rw [hnt]
      exact HJ.out.1 _ _ _ hI.j hI.sz (below_put _ (by omega))
    case stop =>
      rintro D c pre W1 hD hS hX hK
      obtain rfl := hX.c
      have H : Hid (NamesX W Jx .ret pre W1 ∧ W1.heap[D]? = some (.deferred (some [])) ∧ w4.heap.size ≤ D ∧ ∃ rest, pre.map Pc.at ++ rest = pcs (bs s)) := ⟨hX, hK, hD, hS⟩
      clear hX hS hK hD bN bP bY4 hJ4 bY cB1
      gi_wp2
      go_wp2_with fail
      obtain ⟨hX, hK, hD, rest, hS⟩ := H.out
      have hnt := names_told HI.out hS
      refine ⟨by simp, .inl ⟨_, _, rfl, run_takeDeferred hK, ?_⟩⟩
      refine ⟨_, results_none rfl _ _ _, ⟨_, rfl⟩, by rw [putS]; exact hX.sz, .inr ⟨_, ?_, HJ.out.2.1 _ _ _ hX.j hX.sz (below_put _ (by omega))⟩⟩
      rw [hnt]
      exact numB_pre _ _
end Go.Proofs.YtadmpobnpnbgoaaDoor
