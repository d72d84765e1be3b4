import Derived.Test.YthalpnpnbclipaaGreatL28
import Derived.Test.YthalpnpnbclipaaGreatL32
import Derived.Test.YthalpnpnbclipaaGreatL33
import Derived.Test.YthalpnpnbclipaaGreatL29
import Derived.Lib.SlBytesConst
/- What Since tells: the ids from a place on, in their order. -/
namespace Go.Proofs.YthalpnpnbclipaaGreat
open Go.RowKit Go.Shelf Go.Maps

attribute [local go_sem] Oper.semAt_some

theorem since_any (w : World) (p : Option Addr) (n : Int) : Calls Tryz.prog 26 #[.pointer p, .int .i64 n] w fun e w' => e = .returned (.func (.func 61) #[] #[.pointer (some ⟨w.heap.size, 0, none⟩), .pointer (some ⟨w.heap.size + 1, 0, none⟩)]) ∧ w' = (w.alloc (.cells #[.pointer p] 28)).alloc (.cells #[.int .i64 n] 3) := by
  go_enter Tryz.func26, Tryz.ntmps26
  go_wp2
  go_ret
  exact ⟨rfl, rfl⟩

abbrev idE (x : Int) : Array Value := #[.int .u64 x]
/-- a store that is not there tells nothing -/
theorem since_nil (w : World) (B C : Nat) (hB : w.cell? ⟨B, 0, none⟩ = some (.pointer none)) (n : Nat) (Kb : Nat → Prop) :
    Tells Fence.wide n Tryz.prog 61 #[.pointer (some ⟨B, 0, none⟩), .pointer (some ⟨C, 0, none⟩)] idE (fun _ _ _ => False) Kb (fun xs => xs = []) w := by
  intro l J W hW hJg hY h0
  have hcB : W.cell? ⟨B, 0, none⟩ = some (.pointer none) := (hW.cell (p := ⟨B, 0, none⟩) (World.block_lt_of_cell? w _ hB)).trans hB
  refine callsIn_of_wp Tryz.func61 rfl trivial ?_ rfl
  simp only [Tryz.ntmps61, List.size_toArray, List.length_cons, List.length_nil, Nat.reduceAdd, Nat.reduceSub, Array.replicate_succ, Array.replicate_zero, List.push_toArray, List.append_toArray, List.nil_append, List.cons_append]
  have H0 : Hid (J [] W) := h0
  clear hY h0 hJg
  gi_wp2
  refine bodyPost_ret (results_none rfl _ _ _) rfl ?_
  exact ⟨⟨_, rfl⟩, [], rfl, H0.out⟩

/-- where Since begins -/
def firstN (n : Int) (N : Nat) : Nat := if n ≤ 0 then 0 else if (N : Int) ≤ n then N else n.toNat
theorem firstN_le (n : Int) (N : Nat) : firstN n N ≤ N := by unfold firstN; split <;> (try split) <;> omega

set_option maxRecDepth 100000 in
set_option maxHeartbeats 4000000 in
theorem since_tells (w : World) (s d j b : Nat) (M : DataW Value) (v : Value) (rs : List (List UInt8)) (os : List Ob) (sz : Nat) (cut : Bool) (FJ O F : Nat → Prop) (h : StAt w s d j b M v rs os sz cut FJ O F) (B C : Nat) (hB : w.cell? ⟨B, 0, none⟩ = some (.pointer (some ⟨s, 0, none⟩))) (n0 : Int) (hC : w.cell? ⟨C, 0, none⟩ = some (.int .i64 n0)) (hos : os.length ≤ 1000000000) (n : Nat) (hn : 1 ≤ n) :
    Tells Fence.wide n Tryz.prog 61 #[.pointer (some ⟨B, 0, none⟩), .pointer (some ⟨C, 0, none⟩)] idE (fun pre x _ => ((oids os).drop (firstN n0 os.length))[pre.length]? = some x) (fun k => F k) (fun xs => xs = (oids os).drop (firstN n0 os.length)) w := by
  intro l J W hW hJg hY h0
  have hJW := h.below hW
  have hcB : W.cell? ⟨B, 0, none⟩ = some (.pointer (some ⟨s, 0, none⟩)) := (hW.cell (p := ⟨B, 0, none⟩) (World.block_lt_of_cell? w _ hB)).trans hB
  have hcC : W.cell? ⟨C, 0, none⟩ = some (.int .i64 n0) := (hW.cell (p := ⟨C, 0, none⟩) (World.block_lt_of_cell? w _ hC)).trans hC
  have c2 := hJW.c2
  have hrow := hJW.row
  obtain ⟨ad, cp, rfl, hcp, hnil⟩ := row_shape hrow
  obtain ⟨N, hN⟩ : ∃ N, N = os.length := ⟨_, rfl⟩
  rw [← hN] at c2 hrow hcp hnil hos hJW
  have HN : Hid (N = os.length) := hN
  obtain ⟨fi, hfi⟩ : ∃ fi, fi = firstN n0 N := ⟨_, rfl⟩
  have hfl : fi ≤ N := by rw [hfi]; exact firstN_le n0 N
  rw [← hN, ← hfi] at hY ⊢
  have HFi : Hid (fi = firstN n0 N) := hfi
  have hcase : (n0 < 0 ∧ fi = 0) ∨ (n0 = 0 ∧ fi = 0) ∨ (0 < n0 ∧ (N : Int) ≤ n0 ∧ fi = N) ∨ (0 < n0 ∧ n0 < (N : Int) ∧ n0 = (fi : Int)) := by
    rw [hfi]
    unfold firstN
    split
    · by_cases e : n0 = 0
      · exact .inr (.inl ⟨e, rfl⟩)
      · exact .inl ⟨by omega, rfl⟩
    · split
      · exact .inr (.inr (.inl ⟨by omega, by omega, rfl⟩))
      · exact .inr (.inr (.inr ⟨by omega, by omega, by omega⟩))
  have hg : (ad = none ∧ N = 0 ∧ cp = 0) ∨ ∃ g, ad = some ⟨g, 0, none⟩ := by
    rcases hrow.2 with ⟨e, e0⟩ | ⟨g, cap, cur, e, _⟩
    · cases e; exact .inl ⟨rfl, e0, rfl⟩
    · cases e; exact .inr ⟨g, rfl⟩
  have HJW : Hid (StAt W s d j b M (.slice ad N cp) rs os sz cut FJ O F) := hJW
  have HY : Hid (∀ pre x W1, J pre W1 → ((oids os).drop fi)[pre.length]? = some x → YieldAt Fence.wide (n - 1) Tryz.prog l (idE x) W1 fun e W' => e = .returned (.bool true) ∧ J (pre ++ [x]) W' ∧ Keep (fun k => F k) W1 W') := hY
  have H0 : Hid (J [] W ∧ (∀ s X Y, J s X → X.grownBy Y none → J s Y)) := ⟨h0, hJg⟩
  have HR : Hid (∀ wr : World, Keep (fun k => F k) W wr → ∀ g, ad = some ⟨g, 0, none⟩ → ∀ k x, (oids os)[k]? = some x → wr.cell? ⟨g, k, none⟩ = some (.int .u64 x)) := by
    intro wr hk g e k x hx
    subst e
    have hg := (hJW.vo g rfl).2.2.2.2
    have := hrow.cells (g := g) rfl k (.int .u64 x) (by rw [List.getElem?_map, hx]; rfl)
    rw [Addr.add_lit] at this
    rw [World.cell?_of_block (hk.2 g hg)]
    simpa using this
  clear hY h0 hJg hJW hN h hfi hB hC hrow hnil
  refine callsIn_of_wp Tryz.func61 rfl trivial ?_ rfl
  simp only [Tryz.ntmps61, List.size_toArray, List.length_cons, List.length_nil, Nat.reduceAdd, Nat.reduceSub, Array.replicate_succ, Array.replicate_zero, List.push_toArray, List.append_toArray, List.nil_append, List.cons_append]
  have hN0 : (N : Int) ≤ 1000000000 := by omega
  rcases hcase with ⟨i1, hfi⟩ | ⟨i1, hfi⟩ | ⟨i1, i2, hfi⟩ | ⟨i1, i2, hfi⟩
  · subst hfi
    have i3 : ¬ (0 : Int) < n0 := by omega
    refine wpIn_wide.2 ?_
    go_wp2_with fail
    go_quiet (fail)
    go_wp2_with fail
    refine (wpIn_wide (n := n)).1 ?_
    gi_loopw [24] (fun i wr => ∃ (k : Nat) (pre : List Int), k ≤ N ∧ i = .int .i64 k ∧ Hid (J pre wr ∧ pre.length = k ∧ pre = ((oids os).drop 0).take k ∧ Keep (fun k => F k) W wr)) (fun i _ => N - (intOf i).toNat)
    case atStart => exact ⟨0, [], Nat.zero_le _, rfl, H0.out.2 _ _ _ H0.out.1 ⟨rfl, rfl, rfl, Nat.le_refl _, fun _ _ _ => rfl⟩, rfl, by simp, ⟨Nat.le_refl _, fun _ _ => rfl⟩⟩
    case round =>
      obtain ⟨k, pre, hk, rfl, H⟩ := hrel
      by_cases hlt : k < N
      · have hlen : (oids os).length = N := by simp [oids, HN.out]
        obtain ⟨x, hx⟩ : ∃ x, (oids os)[0 + k]? = some x := ⟨_, List.getElem?_eq_getElem (by omega)⟩
        obtain ⟨g, rfl⟩ : ∃ g, ad = some ⟨g, 0, none⟩ := hg.resolve_left (fun e => by omega)
        have q1 := HR.out wr H.out.2.2.2 g rfl (0 + k) x hx
        have i5 : (k : Int) < ((N : Nat) : Int) := by omega
        have hY1 := HY.out pre x wr H.out.1 (by rw [H.out.2.1, List.getElem?_drop]; exact hx)
        have HT : Hid (pre ++ [x] = ((oids os).drop 0).take (k + 1)) := (by rw [List.take_add_one, List.getElem?_drop, hx, H.out.2.2.1]; simp : pre ++ [x] = ((oids os).drop 0).take (k + 1))
        clear hx hlen
        obtain ⟨fn, tmps, assign, body, hy, hR⟩ := hY1
        simp only [idE, Nat.zero_add] at hy q1
        gi_wp2_with fail
        refine hR.mono ?_
        clear hR
        rintro e W3 ⟨rfl, hJ3, hk3⟩
        have HE : Hid (J (pre ++ [x]) W3 ∧ (pre ++ [x]).length = k + 1 ∧ pre ++ [x] = ((oids os).drop 0).take (k + 1) ∧ Keep (fun k => F k) W W3) := ⟨hJ3, by simp [H.out.2.1], HT.out, H.out.2.2.2.trans hk3⟩
        clear hJ3 hk3
        gi_wp2
        go_roundw
        case rel => exact ⟨k + 1, _, by omega, by simp, HE⟩
        case measure => simp [intOf]; omega
      · have i5 : ¬ (k : Int) < ((N : Nat) : Int) := by omega
        have hp : pre = (oids os).drop 0 := by
          rw [H.out.2.2.1]
          refine List.take_of_length_le ?_
          simp only [List.length_drop, oids, List.length_map, ← HN.out]
          omega
        have HJ : Hid (J ((oids os).drop 0) wr) := (by have := H.out.1; rw [hp] at this; exact this : J ((oids os).drop 0) wr)
        clear hp
        gi_wp2
        go_end0
        have hJ := HJ.out
        simpa using hJ
  · subst hfi
    subst i1
    refine wpIn_wide.2 ?_
    go_wp2_with fail
    go_quiet (fail)
    go_wp2_with fail
    refine (wpIn_wide (n := n)).1 ?_
    gi_loopw [24] (fun i wr => ∃ (k : Nat) (pre : List Int), k ≤ N ∧ i = .int .i64 k ∧ Hid (J pre wr ∧ pre.length = k ∧ pre = ((oids os).drop 0).take k ∧ Keep (fun k => F k) W wr)) (fun i _ => N - (intOf i).toNat)
    case atStart => exact ⟨0, [], Nat.zero_le _, rfl, H0.out.2 _ _ _ H0.out.1 ⟨rfl, rfl, rfl, Nat.le_refl _, fun _ _ _ => rfl⟩, rfl, by simp, ⟨Nat.le_refl _, fun _ _ => rfl⟩⟩
    case round =>
      obtain ⟨k, pre, hk, rfl, H⟩ := hrel
      by_cases hlt : k < N
      · have hlen : (oids os).length = N := by simp [oids, HN.out]
        obtain ⟨x, hx⟩ : ∃ x, (oids os)[0 + k]? = some x := ⟨_, List.getElem?_eq_getElem (by omega)⟩
        obtain ⟨g, rfl⟩ : ∃ g, ad = some ⟨g, 0, none⟩ := hg.resolve_left (fun e => by omega)
        have q1 := HR.out wr H.out.2.2.2 g rfl (0 + k) x hx
        have i5 : (k : Int) < ((N : Nat) : Int) := by omega
        have hY1 := HY.out pre x wr H.out.1 (by rw [H.out.2.1, List.getElem?_drop]; exact hx)
        have HT : Hid (pre ++ [x] = ((oids os).drop 0).take (k + 1)) := (by rw [List.take_add_one, List.getElem?_drop, hx, H.out.2.2.1]; simp : pre ++ [x] = ((oids os).drop 0).take (k + 1))
        clear hx hlen
        obtain ⟨fn, tmps, assign, body, hy, hR⟩ := hY1
        simp only [idE, Nat.zero_add] at hy q1
        gi_wp2_with fail
        refine hR.mono ?_
        clear hR
        rintro e W3 ⟨rfl, hJ3, hk3⟩
        have HE : Hid (J (pre ++ [x]) W3 ∧ (pre ++ [x]).length = k + 1 ∧ pre ++ [x] = ((oids os).drop 0).take (k + 1) ∧ Keep (fun k => F k) W W3) := ⟨hJ3, by simp [H.out.2.1], HT.out, H.out.2.2.2.trans hk3⟩
        clear hJ3 hk3
        gi_wp2
        go_roundw
        case rel => exact ⟨k + 1, _, by omega, by simp, HE⟩
        case measure => simp [intOf]; omega
      · have i5 : ¬ (k : Int) < ((N : Nat) : Int) := by omega
        have hp : pre = (oids os).drop 0 := by
          rw [H.out.2.2.1]
          refine List.take_of_length_le ?_
          simp only [List.length_drop, oids, List.length_map, ← HN.out]
          omega
        have HJ : Hid (J ((oids os).drop 0) wr) := (by have := H.out.1; rw [hp] at this; exact this : J ((oids os).drop 0) wr)
        clear hp
        gi_wp2
        go_end0
        have hJ := HJ.out
        simpa using hJ
  · subst hfi
    have i3 : ¬ n0 < 0 := by omega
    have HJ : Hid (J ((oids os).drop fi) W) := (by rw [List.drop_of_length_le (by simp [oids, ← HN.out])]; exact H0.out.1 : J ((oids os).drop fi) W)
    have HJd : Hid (∀ q, J ((oids os).drop fi) (W.drewN q)) := fun q => H0.out.2 _ _ _ HJ.out ⟨rfl, rfl, rfl, Nat.le_refl _, fun _ _ _ => rfl⟩
    have hcc : fi = cp ∨ fi < cp := by omega
    rcases hcc with hcc | hcc
    · subst hcc
      by_cases i6 : n0 = (fi : Int)
      · subst i6
        refine wpIn_wide.2 ?_
        go_wp2_with fail
        go_quiet (fail)
        go_wp2_with fail
        refine (wpIn_wide (n := n)).1 ?_
        gi_loopw [24] (fun i wr => i = .int .i64 0 ∧ Hid (J ((oids os).drop fi) wr)) (fun _ _ => 0)
        case atStart => exact ⟨rfl, HJd.out _⟩
        case round =>
          obtain ⟨rfl, H⟩ := hrel
          gi_wp2
          go_end0
          have hJ := H.out
          simpa using hJ
      · have i7 : (fi : Int) < n0 := by omega
        refine wpIn_wide.2 ?_
        go_wp2_with fail
        go_quiet (fail)
        go_wp2_with fail
        refine (wpIn_wide (n := n)).1 ?_
        gi_loopw [24] (fun i wr => i = .int .i64 0 ∧ Hid (J ((oids os).drop fi) wr)) (fun _ _ => 0)
        case atStart => exact ⟨rfl, HJd.out _⟩
        case round =>
          obtain ⟨rfl, H⟩ := hrel
          gi_wp2
          go_end0
          have hJ := H.out
          simpa using hJ
    · have i8 : ¬ fi = cp := by omega
      by_cases i6 : n0 = (fi : Int)
      · subst i6
        refine wpIn_wide.2 ?_
        go_wp2_with fail
        go_quiet (fail)
        go_wp2_with fail
        refine (wpIn_wide (n := n)).1 ?_
        gi_loopw [24] (fun i wr => i = .int .i64 0 ∧ Hid (J ((oids os).drop fi) wr)) (fun _ _ => 0)
        case atStart => exact ⟨rfl, HJd.out _⟩
        case round =>
          obtain ⟨rfl, H⟩ := hrel
          gi_wp2
          go_end0
          have hJ := H.out
          simpa using hJ
      · have i7 : (fi : Int) < n0 := by omega
        refine wpIn_wide.2 ?_
        go_wp2_with fail
        go_quiet (fail)
        go_wp2_with fail
        refine (wpIn_wide (n := n)).1 ?_
        gi_loopw [24] (fun i wr => i = .int .i64 0 ∧ Hid (J ((oids os).drop fi) wr)) (fun _ _ => 0)
        case atStart => exact ⟨rfl, HJd.out _⟩
        case round =>
          obtain ⟨rfl, H⟩ := hrel
          gi_wp2
          go_end0
          have hJ := H.out
          simpa using hJ
  · have i3 : ¬ n0 < 0 := by omega
    subst hfi
    have i4 : fi < cp := by omega
    obtain ⟨g0, rfl⟩ : ∃ g, ad = some ⟨g, 0, none⟩ := hg.resolve_left (fun e => by omega)
    refine wpIn_wide.2 ?_
    go_wp2_with fail
    go_quiet (fail)
    go_wp2_with fail
    refine (wpIn_wide (n := n)).1 ?_
    gi_loopw [24] (fun i wr => ∃ (k : Nat) (pre : List Int), k ≤ (N - fi) ∧ i = .int .i64 k ∧ Hid (J pre wr ∧ pre.length = k ∧ pre = ((oids os).drop fi).take k ∧ Keep (fun k => F k) W wr)) (fun i _ => (N - fi) - (intOf i).toNat)
    case atStart => exact ⟨0, [], Nat.zero_le _, rfl, H0.out.2 _ _ _ H0.out.1 ⟨rfl, rfl, rfl, Nat.le_refl _, fun _ _ _ => rfl⟩, rfl, by simp, ⟨Nat.le_refl _, fun _ _ => rfl⟩⟩
    case round =>
      obtain ⟨k, pre, hk, rfl, H⟩ := hrel
      by_cases hlt : k < (N - fi)
      · have hlen : (oids os).length = N := by simp [oids, HN.out]
        obtain ⟨x, hx⟩ : ∃ x, (oids os)[fi + k]? = some x := ⟨_, List.getElem?_eq_getElem (by omega)⟩
        obtain ⟨g, rfl⟩ : ∃ g, g = g0 := ⟨_, rfl⟩
        have q1 := HR.out wr H.out.2.2.2 g rfl (fi + k) x hx
        have i5 : (k : Int) < (((N - fi) : Nat) : Int) := by omega
        have hY1 := HY.out pre x wr H.out.1 (by rw [H.out.2.1, List.getElem?_drop]; exact hx)
        have HT : Hid (pre ++ [x] = ((oids os).drop fi).take (k + 1)) := (by rw [List.take_add_one, List.getElem?_drop, hx, H.out.2.2.1]; simp : pre ++ [x] = ((oids os).drop fi).take (k + 1))
        clear hx hlen
        obtain ⟨fn, tmps, assign, body, hy, hR⟩ := hY1
        simp only [idE] at hy q1
        gi_wp2_with fail
        refine hR.mono ?_
        clear hR
        rintro e W3 ⟨rfl, hJ3, hk3⟩
        have HE : Hid (J (pre ++ [x]) W3 ∧ (pre ++ [x]).length = k + 1 ∧ pre ++ [x] = ((oids os).drop fi).take (k + 1) ∧ Keep (fun k => F k) W W3) := ⟨hJ3, by simp [H.out.2.1], HT.out, H.out.2.2.2.trans hk3⟩
        clear hJ3 hk3
        gi_wp2
        go_roundw
        case rel => exact ⟨k + 1, _, by omega, by simp, HE⟩
        case measure => simp [intOf]; omega
      · have i5 : ¬ (k : Int) < (((N - fi) : Nat) : Int) := by omega
        have hp : pre = (oids os).drop fi := by
          rw [H.out.2.2.1]
          refine List.take_of_length_le ?_
          simp only [List.length_drop, oids, List.length_map, ← HN.out]
          omega
        have HJ : Hid (J ((oids os).drop fi) wr) := (by have := H.out.1; rw [hp] at this; exact this : J ((oids os).drop fi) wr)
        clear hp
        gi_wp2
        go_end0
        have hJ := HJ.out
        simpa using hJ
end Go.Proofs.YthalpnpnbclipaaGreat

/- A store on a disk that is not cut and has just its records. -/
namespace Go.Proofs.YthalpnpnbclipaaGreat
open Go.RowKit Go.Shelf Go.Maps

attribute [local go_sem] Oper.semAt_some

theorem objNm_name : nameB objNm.data.toList = true := by decide
theorem objNm_size : objNm.size ≤ maxLen := by simp [objNm, ByteArray.size, maxLen]

/-- objects that come back from their bytes, each once -/
def Pure (os : List Ob) : Prop := (∀ o ∈ os, decG (obB o) = some o) ∧ (oids os).Nodup
theorem Pure.nil : Pure [] := ⟨by simp, by simp [oids]⟩
theorem Pure.snoc {os : List Ob} {o : Ob} (h : Pure os) (hd : decG (obB o) = some o) (hf : findO os (oid o) = none) : Pure (os ++ [o]) := by
  refine ⟨fun p hp => ?_, ?_⟩
  · rcases List.mem_append.1 hp with hp | hp
    · exact h.1 p hp
    · simp at hp; subst hp; exact hd
  · have := findO_none hf
    unfold oids at this ⊢
    rw [List.map_append, List.nodup_append]
    refine ⟨h.2, by simp, ?_⟩
    intro a ha b hb
    simp at hb
    subst hb
    intro e
    subst e
    exact this ha
theorem Pure.load {os : List Ob} (h : Pure os) : loadG (os.map obB) [] = some os := by
  have key : ∀ (b a : List Ob), Pure (a ++ b) → loadG (b.map obB) a = some (a ++ b) := by
    intro b
    induction b with
    | nil => intro a _; simp [loadG]
    | cons o b ih =>
      intro a ha
      simp only [List.map_cons, loadG]
      rw [ha.1 o (by simp)]
      have hf : findO a (oid o) = none := by
        unfold findO
        rw [List.find?_eq_none]
        intro p hp he
        have hn := ha.2
        unfold oids at hn
        rw [List.map_append, List.nodup_append] at hn
        exact hn.2.2 (oid p) (List.mem_map_of_mem hp) (oid o) (by simp) (by simpa using he)
      simp only [hf, Option.isSome_none, Bool.false_eq_true, if_false]
      have := ih (a ++ [o]) (by simpa using ha)
      simpa using this
  simpa using key os [] (by simpa using h)
theorem blob_pure (b : List UInt8) (h : b.length ≤ 4096) : obErr (.blob b) = 0 ∧ decG (obB (.blob b)) = some (.blob b) := by
  have h0 : obErr (.blob b) = 0 := by
    show blobErr b.length = 0
    unfold blobErr
    rw [if_neg (by omega)]
  refine ⟨h0, ?_⟩
  have h1 : decR (obB (.blob b) ++ []) = some (.blob (b ++ [])) := decR_obB (.blob b) trivial []
  rw [List.append_nil, List.append_nil] at h1
  unfold decG
  rw [h1, Option.bind_some, if_pos h0]

/-- a store, and its disk, that has just its records -/
structure StG (w : World) (s d : Nat) (os : List Ob) (S : DG) (F G : Nat → Prop) : Prop where
  st : IsSt w s d os (fileB (os.map obB)).length false F
  dk : IsDisk w d S G
  dis : ∀ k, F k → ¬ G k
  gd : JGd S objNm.data.toList (os.map obB)
theorem StG.turn {w w' : World} {s d : Nat} {os : List Ob} {S : DG} {F G X : Nat → Prop} (h : StG w s d os S F G) (hT : Turn X w w') (hX : ∀ k, F k ∨ G k → ¬ X k) : StG w' s d os S F G := ⟨h.st.turn hT (fun k hk => hX k (.inl hk)), h.dk.turn hT (fun k hk => hX k (.inr hk)), h.dis, h.gd⟩
theorem StG.below {w w' : World} {s d : Nat} {os : List Ob} {S : DG} {F G : Nat → Prop} (h : StG w s d os S F G) (hB : Below w.heap.size w w') : StG w' s d os S F G := h.turn (Turn.of_below (fun _ => False) hB) (fun _ _ => id)

theorem sput_good (w : World) (s d : Nat) (os : List Ob) (S : DG) (F G : Nat → Prop) (h : StG w s d os S F G) (v : Value) (o : Ob) (hv : ∀ W, Turn (fun k => F k ∨ G k) w W → ObS o v W) (h0 : obErr o = 0) (hf : findO os (oid o) = none) (hn : os.length < 65536) (hfit : (recB (obB o)).length + (fileB (os.map obB)).length ≤ 4194304) :
    Calls Tryz.prog 11 #[.pointer (some ⟨s, 0, none⟩), v] w fun e w' => e = .returned (.tuple #[.int .u64 (oid o), .int .i64 0]) ∧ Turn (fun k => F k ∨ G k) w w' ∧ ∃ S' F' G', StG w' s d (os ++ [o]) S' F' G' ∧ (∀ k, F' k → F k ∨ w.heap.size ≤ k) ∧ (∀ k, G' k → G k ∨ w.heap.size ≤ k) := by
  have hlen := obB_len (hv w (Turn.refl _ _)).1 h0
  obtain ⟨S', ha, hg'⟩ := h.gd.app objNm_name (obB o) (by omega) hfit
  have hbs : (S.bs objNm.data.toList).length = (fileB (os.map obB)).length := by rw [h.gd.get]
  have hSn := h.gd.n
  have hwr := h.gd.wr
  refine (sput_new w s d os _ F h.st S G h.dk h.dis v o hv h0 hf hn (by rw [hbs]; omega) (by rw [hbs]; exact Nat.le_refl _) (by omega) (by omega)).mono ?_
  rintro e w' ⟨he, hT, F', G', hd', hF', hG', hFG', hc⟩
  rw [ha] at he hd' hc
  rcases hc with ⟨_, hS⟩ | ⟨hne, _⟩
  · refine ⟨he, hT, S', F', G', ⟨?_, hd', hFG', by rw [List.map_append]; exact hg'⟩, hF', hG'⟩
    rw [List.map_append, List.map_cons, List.map_nil, fileB_snoc, List.length_append]
    exact hS
  · exact absurd rfl hne
theorem sopen_good (w : World) (d : Nat) (os : List Ob) (S : DG) (G : Nat → Prop) (hd : IsDisk w d S G) (hg : JGd S objNm.data.toList (os.map obB)) (hp : Pure os) (hfit : (fileB (os.map obB)).length ≤ 4194304) (hn : os.length ≤ 65536) :
    Calls Tryz.prog 9 #[.pointer (some ⟨d, 0, none⟩)] w fun e w' => ∃ s F G', e = .returned (.tuple #[.pointer (some ⟨s, 0, none⟩), .int .i64 0]) ∧ StG w' s d os S F G' ∧ Turn G w w' ∧ (∀ k, F k → w.heap.size ≤ k) ∧ (∀ k, G' k → G k ∨ w.heap.size ≤ k) := by
  have hSn := hg.n
  have hwr := hg.wr
  refine (sopen_any w d S G hd (by rw [hg.get]; exact hfit) (by omega) (by unfold maxLen; omega)).mono ?_
  rintro e w' ⟨hT, G', hd', hG', hc⟩
  obtain ⟨ho, hpa⟩ := hg.opened
  rw [ho] at hd' hc
  rw [hpa, hp.load] at hc
  rcases hc with ⟨h0, _⟩ | ⟨_, h0, _⟩ | ⟨_, os', h0, h1, _⟩ | ⟨_, os', s, F, h0, h1, he, hS, hF, hFG⟩
  · exact absurd rfl h0
  · cases h0
  · cases h0; omega
  · cases h0
    exact ⟨s, F, G', he, ⟨hS, hd', hFG, hg⟩, hT, hF, hG'⟩
end Go.Proofs.YthalpnpnbclipaaGreat

/- The walk of the law's wakes. -/
namespace Go.Proofs.YthalpnpnbclipaaGreat
open Go.RowKit Go.Shelf Go.Maps

attribute [local go_sem] Oper.semAt_some

/-- a blob of bytes that lie in memory -/
theorem blob_at {W : World} {a : Option Addr} {b : List UInt8} {c : Nat} (hb : Bytes W a b.length b) (hnil : a = none → b.length = 0 ∧ c = 0) (hl : b.length ≤ 4096) : ObS (.blob b) (.iface 65 (.agg #[.slice a b.length c])) W :=
  ⟨⟨a, c, rfl, hb, hnil, by omega⟩, trivial⟩
theorem snew_any (w : World) : Calls Tryz.prog 8 #[] w fun e w' => e = .returned (.pointer (some ⟨w.heap.size + 1, 0, none⟩)) ∧ ∃ G, IsDisk w' (w.heap.size + 1) ⟨fun _ => none, 0, 0, false, 0⟩ G ∧ (∀ k, G k → w.heap.size ≤ k) ∧ Below w.heap.size w w' := by
  refine (new_any w).mono ?_
  rintro e w' ⟨he, hd, hB⟩
  exact ⟨he, _, hd, fun k hk => by rcases hk with h | h <;> omega, hB⟩
theorem lit_two (W : World) (x y : UInt8) (fz : Nat × Nat) : Bytes (W.alloc (.cells #[.int .u8 (x.toNat : Int), .int .u8 (y.toNat : Int)] 5 fz)) (some ⟨W.heap.size, 0, none⟩) 2 [x, y] := by
  have hb := World.alloc_heap_new W (.cells #[.int .u8 (x.toNat : Int), .int .u8 (y.toNat : Int)] 5 fz)
  generalize W.alloc (.cells #[.int .u8 (x.toNat : Int), .int .u8 (y.toNat : Int)] 5 fz) = W' at hb
  refine ⟨rfl, fun _ => ⟨W.heap.size, 0, rfl, fun i hi => ?_⟩⟩
  match i, hi with
  | 0, _ => simp [World.cell?, hb, bt]
  | 1, _ => simp [World.cell?, hb, bt]
theorem findO_one (o : Ob) : findO [o] (oid o) = some o := by simp [findO]
theorem sput_blob (w : World) (s d : Nat) (os : List Ob) (S : DG) (F G : Nat → Prop) (h : StG w s d os S F G) (a : Option Addr) (n c : Nat) (b : List UInt8) (hb : Bytes w a n b) (hnil : a = none → n = 0 ∧ c = 0) (ha : 0 < n → ∀ x, a = some x → ¬ (F x.block ∨ G x.block)) (hl : n ≤ 4096) (hf : findO os (oid (.blob b)) = none) (hn : os.length < 65536) (hfit : (recB (98 :: b)).length + (fileB (os.map obB)).length ≤ 4194304) :
    Calls Tryz.prog 11 #[.pointer (some ⟨s, 0, none⟩), .iface 65 (.agg #[.slice a n c])] w fun e w' => e = .returned (.tuple #[.int .u64 (oid (.blob b)), .int .i64 0]) ∧ Turn (fun k => F k ∨ G k) w w' ∧ ∃ S' F' G', StG w' s d (os ++ [.blob b]) S' F' G' ∧ (∀ k, F' k → F k ∨ w.heap.size ≤ k) ∧ (∀ k, G' k → G k ∨ w.heap.size ≤ k) := by
  have hll := hb.1
  subst hll
  exact sput_good w s d os S F G h _ (.blob b) (fun W hT => blob_at (hT.bytes hb ha) hnil hl) (blob_pure b hl).1 hf hn hfit
set_option maxRecDepth 20000 in
set_option maxHeartbeats 2000000 in
theorem swakes_any (w : World) : Calls Tryz.prog 7 #[] w fun e w' => e = .returned (.bool true) ∧ Below w.heap.size w w' := by
  have kc := fun (w : World) (C : Array Value) (n c : Nat) => Lib.run_convert_bytes_const (P := Tryz.prog) w 36 5 C n c Tryz.underlying36 Tryz.underlying5
  have hn := snew_any w
  have hop := fun W d S G hd hg => sopen_good W d [] S G hd hg Pure.nil (by simp [fileB]) (by simp)
  obtain ⟨o, ho⟩ : ∃ o, o = Ob.blob [97, 98] := ⟨_, rfl⟩
  have HO : Hid (o = .blob [97, 98]) := ho
  have HP : Hid (∀ (w2 : World) (s d : Nat) (F G : Nat → Prop) (S : DG), StG w2 s d [] S F G → Calls Tryz.prog 11 #[.pointer (some ⟨s, 0, none⟩), .iface 65 (.agg #[.slice (some ⟨w2.heap.size, 0, none⟩) 2 2])] (w2.alloc (.cells #[.int .u8 97, .int .u8 98] 5 (2, 3))) fun e w' => e = .returned (.tuple #[.int .u64 (oid o), .int .i64 0]) ∧ Turn (fun k => F k ∨ G k) (w2.alloc (.cells #[.int .u8 97, .int .u8 98] 5 (2, 3))) w' ∧ ∃ S' F' G', StG w' s d [o] S' F' G' ∧ (∀ k, F' k → F k ∨ w2.heap.size ≤ k) ∧ (∀ k, G' k → G k ∨ w2.heap.size ≤ k)) := by
    intro w2 s d F G S hS
    rw [ho]
    have hx := sput_blob (w2.alloc (.cells #[.int .u8 97, .int .u8 98] 5 (2, 3))) s d [] S F G (hS.below ((Below.refl _ _).alloc (Nat.le_refl _) _)) (some ⟨w2.heap.size, 0, none⟩) 2 2 [97, 98] (lit_two w2 97 98 (2, 3)) (fun h => by cases h) (fun _ x hx hk => by
      cases hx
      rcases hk with hk | hk
      · have := hS.st.lt _ hk; simp only at this; omega
      · have := hS.dk.lt _ hk; simp only at this; omega) (by omega) rfl (by simp) (by have := (recB_pos [98, 97, 98]).2; simp [fileB] at this ⊢; omega)
    refine hx.mono ?_
    rintro e w' ⟨he, hT, S', F', G', h1, h2, h3⟩
    rw [World.size_alloc] at h2 h3
    exact ⟨he, hT, S', F', G', h1, fun k hk => (h2 k hk).imp id (fun h => by omega), fun k hk => (h3 k hk).imp id (fun h => by omega)⟩
  have hb0 := (idOf_bounds (obB o)).1
  have hb1 := (idOf_bounds (obB o)).2
  have hfo := findO_one o
  have hib : isBlob o = true := by rw [ho]; rfl
  have hit : isTree o = false := by rw [ho]; rfl
  change 0 ≤ oid o at hb0
  change oid o ≤ _ at hb1
  clear ho
  generalize hI : oid o = I at *
  have HF : Hid (findO [o] I = some o) := hfo
  have HBd : Hid (0 ≤ I ∧ I ≤ 18446744073709551615 ∧ isBlob o = true ∧ isTree o = false) := ⟨hb0, hb1, hib, hit⟩
  clear hI hfo hb0 hb1 hib hit
  go_enter Tryz.func7, Tryz.ntmps7
  go_wp2_with first
    | (go_at_call 8; refine hn.mono ?_; clear hn; rintro e w1 ⟨rfl, G, hd, hG, hB1⟩; have HD : Hid (IsDisk w1 (w.heap.size + 1) ⟨fun _ => none, 0, 0, false, 0⟩ G ∧ ∀ k, G k → w.heap.size ≤ k) := ⟨hd, hG⟩; clear hd hG)
    | (go_at_call 9; refine (hop _ _ _ _ HD.out.1 (JGd.new _)).mono ?_; clear hop; rintro e w2 ⟨s, F, G2, rfl, hS, hT2, hF2, hG2⟩; have hs1 := hB1.size; have B2 : Hid (Below w.heap.size w w2) := hB1.trans (hT2.below hB1.size HD.out.2); have H2 : Hid (StG w2 s (w.heap.size + 1) [] ⟨fun _ => none, 0, 0, false, 0⟩ F G2 ∧ (∀ k, F k ∨ G2 k → w.heap.size ≤ k)) := ⟨hS, fun k hk => hk.elim (fun h => by have := hF2 k h; omega) (fun h => (hG2 k h).elim (HD.out.2 k) (fun h => by omega))⟩; clear hS hT2 hF2 hG2 HD)
    | (go_at_call 11; refine (HP.out _ _ _ _ _ _ H2.out.1).mono ?_; clear HP; rintro e w3 ⟨rfl, hT3, S3, F3, G3, hS3, hF3, hG3⟩; have hs2 := B2.out.size; have hB23 : Below w.heap.size w (w2.alloc (.cells #[.int .u8 97, .int .u8 98] 5 (2, 3))) := B2.out.alloc B2.out.size _; have B3 : Hid (Below w.heap.size w w3) := hB23.trans (hT3.below hB23.size H2.out.2); have H3 : Hid (IsSt w3 s (w.heap.size + 1) [o] (fileB ([o].map obB)).length false F3) := hS3.st; clear hS3 hT3 hF3 hG3 hB23 H2)
    | (go_at_call 22; refine (sblob_yes _ s _ [o] _ _ F3 H3.out I HBd.out.1 HBd.out.2.1 o HF.out HBd.out.2.2.1).mono ?_; rintro e w4 ⟨ba, bn, bc, rfl, hO4, hB4⟩; rw [HO.out] at hO4; obtain ⟨ad4, cp4, hv4, hy4, hn4, hl4⟩ := hO4.1; cases hv4; have B4 : Hid (Below w.heap.size w w4) := B3.out.trans (hB4.mono B3.out.size); have H4 : Hid (IsSt w4 s (w.heap.size + 1) [o] (fileB ([o].map obB)).length false F3) := H3.out.below hB4; have HY4 : Hid (Bytes w4 ba 2 [97, 98]) := hy4; clear hO4 hB4 hy4 hl4 hn4 H3)
    | (go_at_call 23; refine (stree_no _ s _ [o] _ _ F3 (H4.out.below ((Below.refl _ _).alloc (Nat.le_refl _) _)) I HBd.out.1 HBd.out.2.1 o HF.out HBd.out.2.2.2).mono ?_; rintro e w5 ⟨ta, tn, tc, rfl, hB5⟩; have hB45 : Below w4.heap.size w4 w5 := ((Below.refl _ w4).alloc (Nat.le_refl _) (.cells #[.slice ba 2 bc] 65)).trans (hB5.mono (by simp)); have hB46 : Below w4.heap.size w4 (w5.alloc (.cells #[.slice ta tn tc] 69)) := hB45.alloc hB45.size _; have hb5 : Boxed w5 w4.heap.size 65 (.slice ba 2 bc) := (hB5.block w4.heap.size (by simp)).trans (World.alloc_heap_new _ _); have cb := (hb5.alloc (.cells #[.slice ta tn tc] 69)).cell; have r1 := run_string (w5.alloc (.cells #[.slice ta tn tc] 69)) ba 2 bc [97, 98] (bytes_below HY4.out hB46); have hlen6 := slen_any (w5.alloc (.cells #[.slice ta tn tc] 69)) s _ [o] _ _ F3 (H4.out.below hB46); have hhas6 := has_any (w5.alloc (.cells #[.slice ta tn tc] 69)) s _ [o] _ _ F3 (H4.out.below hB46) I HBd.out.1 HBd.out.2.1; rw [HF.out] at hhas6; have B6 : Hid (Below w.heap.size w (w5.alloc (.cells #[.slice ta tn tc] 69))) := B4.out.trans (hB46.mono B4.out.size); clear hB45 hB46 hb5 hB5)
    | (go_at_call 27; refine hlen6.mono ?_; clear hlen6; rintro e w7 ⟨rfl, h7⟩; subst h7)
    | (go_at_call 16; refine hhas6.mono ?_; clear hhas6; rintro e w8 ⟨rfl, h8⟩; subst h8)
  go_ret
  exact ⟨rfl, B6.out⟩
end Go.Proofs.YthalpnpnbclipaaGreat
