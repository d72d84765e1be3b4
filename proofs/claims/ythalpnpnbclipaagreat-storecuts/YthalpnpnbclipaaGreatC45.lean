import Derived.Test.YthalpnpnbclipaaGreatC39
import Derived.Test.YthalpnpnbclipaaGreatC43
/- What Since tells: the ids from a place on, in their order. -/
namespace Go.Proofs.YthalpnpnbclipaaGreat
open Go.RowKit Go.Shelf Go.Maps

attribute [local go_sem] Oper.semAt_some

theorem since_any (w : World) (p : Option Addr) (n : Int) : Calls Tryz.prog 26 #[.pointer p, .int .i64 n] w fun e w' => e = .returned (.func (.func 61) #[] #[.pointer (some ⟨w.heap.size, 0, none⟩), .pointer (some ⟨w.heap.size + 1, 0, none⟩)]) ∧ w' = (w.alloc (.cells #[.pointer p] 28)).alloc (.cells #[.int .i64 n] 3) := by
  go_enter Tryz.func26, Tryz.ntmps26
  go_wp2
  go_ret
  exact ⟨rfl, rfl⟩

abbrev idE (x : Int) : Array Value := #[.int .u64 x]
/-- a store that is not there tells nothing -/
theorem since_nil (w : World) (B C : Nat) (hB : w.cell? ⟨B, 0, none⟩ = some (.pointer none)) (n : Nat) (Kb : Nat → Prop) :
    Tells Fence.wide n Tryz.prog 61 #[.pointer (some ⟨B, 0, none⟩), .pointer (some ⟨C, 0, none⟩)] idE (fun _ _ _ => False) Kb (fun xs => xs = []) w := by
  intro l J W hW hJg hY h0
  have hcB : W.cell? ⟨B, 0, none⟩ = some (.pointer none) := (hW.cell (p := ⟨B, 0, none⟩) (World.block_lt_of_cell? w _ hB)).trans hB
  refine callsIn_of_wp Tryz.func61 rfl trivial ?_ rfl
  simp only [Tryz.ntmps61, List.size_toArray, List.length_cons, List.length_nil, Nat.reduceAdd, Nat.reduceSub, Array.replicate_succ, Array.replicate_zero, List.push_toArray, List.append_toArray, List.nil_append, List.cons_append]
  have H0 : Hid (J [] W) := h0
  clear hY h0 hJg
  gi_wp2
  refine bodyPost_ret (results_none rfl _ _ _) rfl ?_
  exact ⟨⟨_, rfl⟩, [], rfl, H0.out⟩

/-- where Since begins -/
def firstN (n : Int) (N : Nat) : Nat := if n ≤ 0 then 0 else if (N : Int) ≤ n then N else n.toNat
theorem firstN_le (n : Int) (N : Nat) : firstN n N ≤ N := by unfold firstN; split <;> (try split) <;> omega

set_option maxRecDepth 100000 in
set_option maxHeartbeats 4000000 in
theorem since_tells (w : World) (s d j b : Nat) (M : DataW Value) (v : Value) (rs : List (List UInt8)) (os : List Ob) (sz : Nat) (cut : Bool) (FJ O F : Nat → Prop) (h : StAt w s d j b M v rs os sz cut FJ O F) (B C : Nat) (hB : w.cell? ⟨B, 0, none⟩ = some (.pointer (some ⟨s, 0, none⟩))) (n0 : Int) (hC : w.cell? ⟨C, 0, none⟩ = some (.int .i64 n0)) (hos : os.length ≤ 1000000000) (n : Nat) (hn : 1 ≤ n) :
    Tells Fence.wide n Tryz.prog 61 #[.pointer (some ⟨B, 0, none⟩), .pointer (some ⟨C, 0, none⟩)] idE (fun pre x _ => ((oids os).drop (firstN n0 os.length))[pre.length]? = some x) (fun k => F k) (fun xs => xs = (oids os).drop (firstN n0 os.length)) w := by
  intro l J W hW hJg hY h0
  have hJW := h.below hW
  have hcB : W.cell? ⟨B, 0, none⟩ = some (.pointer (some ⟨s, 0, none⟩)) := (hW.cell (p := ⟨B, 0, none⟩) (World.block_lt_of_cell? w _ hB)).trans hB
  have hcC : W.cell? ⟨C, 0, none⟩ = some (.int .i64 n0) := (hW.cell (p := ⟨C, 0, none⟩) (World.block_lt_of_cell? w _ hC)).trans hC
  have c2 := hJW.c2
  have hrow := hJW.row
  obtain ⟨ad, cp, rfl, hcp, hnil⟩ := row_shape hrow
  obtain ⟨N, hN⟩ : ∃ N, N = os.length := ⟨_, rfl⟩
  rw [← hN] at c2 hrow hcp hnil hos hJW
  have HN : Hid (N = os.length) := hN
  obtain ⟨fi, hfi⟩ : ∃ fi, fi = firstN n0 N := ⟨_, rfl⟩
  have hfl : fi ≤ N := by rw [hfi]; exact firstN_le n0 N
  rw [← hN, ← hfi] at hY ⊢
  have HFi : Hid (fi = firstN n0 N) := hfi
  have hcase : (n0 < 0 ∧ fi = 0) ∨ (n0 = 0 ∧ fi = 0) ∨ (0 < n0 ∧ (N : Int) ≤ n0 ∧ fi = N) ∨ (0 < n0 ∧ n0 < (N : Int) ∧ n0 = (fi : Int)) := by
    rw [hfi]
    unfold firstN
    split
    · by_cases e : n0 = 0
      · exact .inr (.inl ⟨e, rfl⟩)
      · exact .inl ⟨by omega, rfl⟩
    · split
      · exact .inr (.inr (.inl ⟨by omega, by omega, rfl⟩))
      · exact .inr (.inr (.inr ⟨by omega, by omega, by omega⟩))
  have hg : (ad = none ∧ N = 0 ∧ cp = 0) ∨ ∃ g, ad = some ⟨g, 0, none⟩ := by
    rcases hrow.2 with ⟨e, e0⟩ | ⟨g, cap, cur, e, _⟩
    · cases e; exact .inl ⟨rfl, e0, rfl⟩
    · cases e; exact .inr ⟨g, rfl⟩
  have HJW : Hid (StAt W s d j b M (.slice ad N cp) rs os sz cut FJ O F) := hJW
  have HY : Hid (∀ pre x W1, J pre W1 → ((oids os).drop fi)[pre.length]? = some x → YieldAt Fence.wide (n - 1) Tryz.prog l (idE x) W1 fun e W' => e = .returned (.bool true) ∧ J (pre ++ [x]) W' ∧ Keep (fun k => F k) W1 W') := hY
  have H0 : Hid (J [] W ∧ (∀ s X Y, J s X → X.grownBy Y none → J s Y)) := ⟨h0, hJg⟩
  have HR : Hid (∀ wr : World, Keep (fun k => F k) W wr → ∀ g, ad = some ⟨g, 0, none⟩ → ∀ k x, (oids os)[k]? = some x → wr.cell? ⟨g, k, none⟩ = some (.int .u64 x)) := by
    intro wr hk g e k x hx
    subst e
    have hg := (hJW.vo g rfl).2.2.2.2
    have := hrow.cells (g := g) rfl k (.int .u64 x) (by rw [List.getElem?_map, hx]; rfl)
    rw [Addr.add_lit] at this
    rw [World.cell?_of_block (hk.2 g hg)]
    simpa using this
  clear hY h0 hJg hJW hN h hfi hB hC hrow hnil
  refine callsIn_of_wp Tryz.func61 rfl trivial ?_ rfl
  simp only [Tryz.ntmps61, List.size_toArray, List.length_cons, List.length_nil, Nat.reduceAdd, Nat.reduceSub, Array.replicate_succ, Array.replicate_zero, List.push_toArray, List.append_toArray, List.nil_append, List.cons_append]
  have hN0 : (N : Int) ≤ 1000000000 := by omega
  rcases hcase with ⟨i1, hfi⟩ | ⟨i1, hfi⟩ | ⟨i1, i2, hfi⟩ | ⟨i1, i2, hfi⟩
  · subst hfi
    have i3 : ¬ (0 : Int) < n0 := by omega
    refine wpIn_wide.2 ?_
    go_wp2_with fail
    go_quiet (fail)
    go_wp2_with fail
    refine (wpIn_wide (n := n)).1 ?_
    gi_loopw [24] (fun i wr => ∃ (k : Nat) (pre : List Int), k ≤ N ∧ i = .int .i64 k ∧ Hid (J pre wr ∧ pre.length = k ∧ pre = ((oids os).drop 0).take k ∧ Keep (fun k => F k) W wr)) (fun i _ => N - (intOf i).toNat)
    case atStart => exact ⟨0, [], Nat.zero_le _, rfl, H0.out.2 _ _ _ H0.out.1 ⟨rfl, rfl, rfl, Nat.le_refl _, fun _ _ _ => rfl⟩, rfl, by simp, ⟨Nat.le_refl _, fun _ _ => rfl⟩⟩
    case round =>
      obtain ⟨k, pre, hk, rfl, H⟩ := hrel
      by_cases hlt : k < N
      · have hlen : (oids os).length = N := by simp [oids, HN.out]
        obtain ⟨x, hx⟩ : ∃ x, (oids os)[0 + k]? = some x := ⟨_, List.getElem?_eq_getElem (by omega)⟩
        obtain ⟨g, rfl⟩ : ∃ g, ad = some ⟨g, 0, none⟩ := hg.resolve_left (fun e => by omega)
        have q1 := HR.out wr H.out.2.2.2 g rfl (0 + k) x hx
        have i5 : (k : Int) < ((N : Nat) : Int) := by omega
        have hY1 := HY.out pre x wr H.out.1 (by rw [H.out.2.1, List.getElem?_drop]; exact hx)
        have HT : Hid (pre ++ [x] = ((oids os).drop 0).take (k + 1)) := (by rw [List.take_add_one, List.getElem?_drop, hx, H.out.2.2.1]; simp : pre ++ [x] = ((oids os).drop 0).take (k + 1))
        clear hx hlen
        obtain ⟨fn, tmps, assign, body, hy, hR⟩ := hY1
        simp only [idE, Nat.zero_add] at hy q1
        gi_wp2_with fail
        refine hR.mono ?_
        clear hR
        rintro e W3 ⟨rfl, hJ3, hk3⟩
        have HE : Hid (J (pre ++ [x]) W3 ∧ (pre ++ [x]).length = k + 1 ∧ pre ++ [x] = ((oids os).drop 0).take (k + 1) ∧ Keep (fun k => F k) W W3) := ⟨hJ3, by simp [H.out.2.1], HT.out, H.out.2.2.2.trans hk3⟩
        clear hJ3 hk3
        gi_wp2
        go_roundw
        case rel => exact ⟨k + 1, _, by omega, by simp, HE⟩
        case measure => simp [intOf]; omega
      · have i5 : ¬ (k : Int) < ((N : Nat) : Int) := by omega
        have hp : pre = (oids os).drop 0 := by
          rw [H.out.2.2.1]
          refine List.take_of_length_le ?_
          simp only [List.length_drop, oids, List.length_map, ← HN.out]
          omega
        have HJ : Hid (J ((oids os).drop 0) wr) := (by have := H.out.1; rw [hp] at this; exact this : J ((oids os).drop 0) wr)
        clear hp
        gi_wp2
        go_end0
        have hJ := HJ.out
        simpa using hJ
  · subst hfi
    subst i1
    refine wpIn_wide.2 ?_
    go_wp2_with fail
    go_quiet (fail)
    go_wp2_with fail
    refine (wpIn_wide (n := n)).1 ?_
    gi_loopw [24] (fun i wr => ∃ (k : Nat) (pre : List Int), k ≤ N ∧ i = .int .i64 k ∧ Hid (J pre wr ∧ pre.length = k ∧ pre = ((oids os).drop 0).take k ∧ Keep (fun k => F k) W wr)) (fun i _ => N - (intOf i).toNat)
    case atStart => exact ⟨0, [], Nat.zero_le _, rfl, H0.out.2 _ _ _ H0.out.1 ⟨rfl, rfl, rfl, Nat.le_refl _, fun _ _ _ => rfl⟩, rfl, by simp, ⟨Nat.le_refl _, fun _ _ => rfl⟩⟩
    case round =>
      obtain ⟨k, pre, hk, rfl, H⟩ := hrel
      by_cases hlt : k < N
      · have hlen : (oids os).length = N := by simp [oids, HN.out]
        obtain ⟨x, hx⟩ : ∃ x, (oids os)[0 + k]? = some x := ⟨_, List.getElem?_eq_getElem (by omega)⟩
        obtain ⟨g, rfl⟩ : ∃ g, ad = some ⟨g, 0, none⟩ := hg.resolve_left (fun e => by omega)
        have q1 := HR.out wr H.out.2.2.2 g rfl (0 + k) x hx
        have i5 : (k : Int) < ((N : Nat) : Int) := by omega
        have hY1 := HY.out pre x wr H.out.1 (by rw [H.out.2.1, List.getElem?_drop]; exact hx)
        have HT : Hid (pre ++ [x] = ((oids os).drop 0).take (k + 1)) := (by rw [List.take_add_one, List.getElem?_drop, hx, H.out.2.2.1]; simp : pre ++ [x] = ((oids os).drop 0).take (k + 1))
        clear hx hlen
        obtain ⟨fn, tmps, assign, body, hy, hR⟩ := hY1
        simp only [idE, Nat.zero_add] at hy q1
        gi_wp2_with fail
        refine hR.mono ?_
        clear hR
        rintro e W3 ⟨rfl, hJ3, hk3⟩
        have HE : Hid (J (pre ++ [x]) W3 ∧ (pre ++ [x]).length = k + 1 ∧ pre ++ [x] = ((oids os).drop 0).take (k + 1) ∧ Keep (fun k => F k) W W3) := ⟨hJ3, by simp [H.out.2.1], HT.out, H.out.2.2.2.trans hk3⟩
        clear hJ3 hk3
        gi_wp2
        go_roundw
        case rel => exact ⟨k + 1, _, by omega, by simp, HE⟩
        case measure => simp [intOf]; omega
      · have i5 : ¬ (k : Int) < ((N : Nat) : Int) := by omega
        have hp : pre = (oids os).drop 0 := by
          rw [H.out.2.2.1]
          refine List.take_of_length_le ?_
          simp only [List.length_drop, oids, List.length_map, ← HN.out]
          omega
        have HJ : Hid (J ((oids os).drop 0) wr) := (by have := H.out.1; rw [hp] at this; exact this : J ((oids os).drop 0) wr)
        clear hp
        gi_wp2
        go_end0
        have hJ := HJ.out
        simpa using hJ
  · subst hfi
    have i3 : ¬ n0 < 0 := by omega
    have HJ : Hid (J ((oids os).drop fi) W) := (by rw [List.drop_of_length_le (by simp [oids, ← HN.out])]; exact H0.out.1 : J ((oids os).drop fi) W)
    have HJd : Hid (∀ q, J ((oids os).drop fi) (W.drewN q)) := fun q => H0.out.2 _ _ _ HJ.out ⟨rfl, rfl, rfl, Nat.le_refl _, fun _ _ _ => rfl⟩
    have hcc : fi = cp ∨ fi < cp := by omega
    rcases hcc with hcc | hcc
    · subst hcc
      by_cases i6 : n0 = (fi : Int)
      · subst i6
        refine wpIn_wide.2 ?_
        go_wp2_with fail
        go_quiet (fail)
        go_wp2_with fail
        refine (wpIn_wide (n := n)).1 ?_
        gi_loopw [24] (fun i wr => i = .int .i64 0 ∧ Hid (J ((oids os).drop fi) wr)) (fun _ _ => 0)
        case atStart => exact ⟨rfl, HJd.out _⟩
        case round =>
          obtain ⟨rfl, H⟩ := hrel
          gi_wp2
          go_end0
          have hJ := H.out
          simpa using hJ
      · have i7 : (fi : Int) < n0 := by omega
        refine wpIn_wide.2 ?_
        go_wp2_with fail
        go_quiet (fail)
        go_wp2_with fail
        refine (wpIn_wide (n := n)).1 ?_
        gi_loopw [24] (fun i wr => i = .int .i64 0 ∧ Hid (J ((oids os).drop fi) wr)) (fun _ _ => 0)
        case atStart => exact ⟨rfl, HJd.out _⟩
        case round =>
          obtain ⟨rfl, H⟩ := hrel
          gi_wp2
          go_end0
          have hJ := H.out
          simpa using hJ
    · have i8 : ¬ fi = cp := by omega
      by_cases i6 : n0 = (fi : Int)
      · subst i6
        refine wpIn_wide.2 ?_
        go_wp2_with fail
        go_quiet (fail)
        go_wp2_with fail
        refine (wpIn_wide (n := n)).1 ?_
        gi_loopw [24] (fun i wr => i = .int .i64 0 ∧ Hid (J ((oids os).drop fi) wr)) (fun _ _ => 0)
        case atStart => exact ⟨rfl, HJd.out _⟩
        case round =>
          obtain ⟨rfl, H⟩ := hrel
          gi_wp2
          go_end0
          have hJ := H.out
          simpa using hJ
      · have i7 : (fi : Int) < n0 := by omega
        refine wpIn_wide.2 ?_
        go_wp2_with fail
        go_quiet (fail)
        go_wp2_with fail
        refine (wpIn_wide (n := n)).1 ?_
        gi_loopw [24] (fun i wr => i = .int .i64 0 ∧ Hid (J ((oids os).drop fi) wr)) (fun _ _ => 0)
        case atStart => exact ⟨rfl, HJd.out _⟩
        case round =>
          obtain ⟨rfl, H⟩ := hrel
          gi_wp2
          go_end0
          have hJ := H.out
          simpa using hJ
  · have i3 : ¬ n0 < 0 := by omega
    subst hfi
    have i4 : fi < cp := by omega
    obtain ⟨g0, rfl⟩ : ∃ g, ad = some ⟨g, 0, none⟩ := hg.resolve_left (fun e => by omega)
    refine wpIn_wide.2 ?_
    go_wp2_with fail
    go_quiet (fail)
    go_wp2_with fail
    refine (wpIn_wide (n := n)).1 ?_
    gi_loopw [24] (fun i wr => ∃ (k : Nat) (pre : List Int), k ≤ (N - fi) ∧ i = .int .i64 k ∧ Hid (J pre wr ∧ pre.length = k ∧ pre = ((oids os).drop fi).take k ∧ Keep (fun k => F k) W wr)) (fun i _ => (N - fi) - (intOf i).toNat)
    case atStart => exact ⟨0, [], Nat.zero_le _, rfl, H0.out.2 _ _ _ H0.out.1 ⟨rfl, rfl, rfl, Nat.le_refl _, fun _ _ _ => rfl⟩, rfl, by simp, ⟨Nat.le_refl _, fun _ _ => rfl⟩⟩
    case round =>
      obtain ⟨k, pre, hk, rfl, H⟩ := hrel
      by_cases hlt : k < (N - fi)
      · have hlen : (oids os).length = N := by simp [oids, HN.out]
        obtain ⟨x, hx⟩ : ∃ x, (oids os)[fi + k]? = some x := ⟨_, List.getElem?_eq_getElem (by omega)⟩
        obtain ⟨g, rfl⟩ : ∃ g, g = g0 := ⟨_, rfl⟩
        have q1 := HR.out wr H.out.2.2.2 g rfl (fi + k) x hx
        have i5 : (k : Int) < (((N - fi) : Nat) : Int) := by omega
        have hY1 := HY.out pre x wr H.out.1 (by rw [H.out.2.1, List.getElem?_drop]; exact hx)
        have HT : Hid (pre ++ [x] = ((oids os).drop fi).take (k + 1)) := (by rw [List.take_add_one, List.getElem?_drop, hx, H.out.2.2.1]; simp : pre ++ [x] = ((oids os).drop fi).take (k + 1))
        clear hx hlen
        obtain ⟨fn, tmps, assign, body, hy, hR⟩ := hY1
        simp only [idE] at hy q1
        gi_wp2_with fail
        refine hR.mono ?_
        clear hR
        rintro e W3 ⟨rfl, hJ3, hk3⟩
        have HE : Hid (J (pre ++ [x]) W3 ∧ (pre ++ [x]).length = k + 1 ∧ pre ++ [x] = ((oids os).drop fi).take (k + 1) ∧ Keep (fun k => F k) W W3) := ⟨hJ3, by simp [H.out.2.1], HT.out, H.out.2.2.2.trans hk3⟩
        clear hJ3 hk3
        gi_wp2
        go_roundw
        case rel => exact ⟨k + 1, _, by omega, by simp, HE⟩
        case measure => simp [intOf]; omega
      · have i5 : ¬ (k : Int) < (((N - fi) : Nat) : Int) := by omega
        have hp : pre = (oids os).drop fi := by
          rw [H.out.2.2.1]
          refine List.take_of_length_le ?_
          simp only [List.length_drop, oids, List.length_map, ← HN.out]
          omega
        have HJ : Hid (J ((oids os).drop fi) wr) := (by have := H.out.1; rw [hp] at this; exact this : J ((oids os).drop fi) wr)
        clear hp
        gi_wp2
        go_end0
        have hJ := HJ.out
        simpa using hJ
end Go.Proofs.YthalpnpnbclipaaGreat
