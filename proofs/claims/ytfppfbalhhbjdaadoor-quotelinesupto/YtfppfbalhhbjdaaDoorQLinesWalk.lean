/- The walk of the law QuoteLines. -/
import Derived.Test.YtfppfbalhhbjdaaDoorQStop
import Derived.Test.YtfppfbalhhbjdaaDoorQRefLines
import Derived.Test.YtfppfbalhhbjdaaDoorQWakes
import Derived.Test.YtfppfbalhhbjdaaDoorQLine
namespace Go.Proofs.YtfppfbalhhbjdaaDoor
open Go.RowKit Go.Shelf

attribute [local go_sem] Oper.semAt_some

theorem lower_abides {β : Type} {B : Nat} {J : β → World → Prop} (h : Lower B J) : AbidesFrom B (fun s X => J s X ∧ B ≤ X.heap.size) := fun s X Y row hs hg hr =>
  ⟨h s X Y hs.1 hs.2 ⟨hg.os, hg.tape, hg.output, hg.size, fun k hk => hg.block k (by have := hs.2; omega) (fun e => by have := (hr k e.symm).1; omega)⟩, Nat.le_trans hs.2 hg.size⟩
theorem lines_tells (s : ByteArray) (hs : s.size ≤ maxLen) (w : World) (B : Nat) (hB : Boxed w B 9 (.string s)) (n m : Nat) (hn : 1 ≤ n) (hm : m = n - 1) :
    TellsS Fence.wide n m Tryd.prog 37 #[.pointer (some ⟨B, 0, none⟩)] (Ln.encs (s := s)) (fun k => k = B) (fun xs => xs.map Ln.at = nums 0 (linesL (bs s))) (fun pre => ∃ rest, pre.map Ln.at ++ rest = nums 0 (linesL (bs s))) w := by
  subst hm
  intro l J Jx W hW hJ hJx hY h0
  refine (lines_told s hs w B hB n hn l (fun p X => J p X ∧ W.heap.size ≤ X.heap.size) (fun p X => Jx p X ∧ W.heap.size ≤ X.heap.size) W hW (lower_abides hJ) ?_ ⟨h0, Nat.le_refl _⟩).mono ?_
  · rintro pre x W1 ⟨hj, hs1⟩ hsp
    obtain ⟨fn, tmps, assign, body, hy, hR⟩ := hY pre x W1 hj hs1 hsp
    refine ⟨fn, tmps, assign, body, hy, hR.mono ?_⟩
    have hBl : B < W1.heap.size := Nat.lt_of_lt_of_le hB.lt (Nat.le_trans hW.size hs1)
    rintro e W' (⟨rfl, hj', hk⟩ | ⟨rfl, hj', hk⟩)
    · exact .inl ⟨rfl, ⟨hj', Nat.le_trans hs1 hk.walks.size⟩, ⟨hk.walks, hk.same B (.inr rfl) hBl⟩⟩
    · exact .inr ⟨rfl, hj', Nat.le_trans hs1 hk.walks.size⟩
  · rintro e W' ⟨hv, (⟨xs, hS, hj, hs1⟩ | ⟨pre, hS, hj, hs1⟩)⟩
    · exact ⟨hv, hs1, .inl ⟨xs, hS, hj⟩⟩
    · exact ⟨hv, hs1, .inr ⟨pre, hS, hj⟩⟩

/-- the next line -/
theorem next_line {s : ByteArray} {pre : List (Ln s)} {x : Ln s} (h : ∃ rest, (pre ++ [x]).map Ln.at ++ rest = nums 0 (linesL (bs s))) : x.1.1 = pre.length ∧ (linesL (bs s))[pre.length]? = some (bs x.1.2) := by
  obtain ⟨rest, h⟩ := h
  have e : (nums 0 (linesL (bs s)))[pre.length]? = some x.at := by
    rw [← h, List.map_append, List.append_assoc, List.getElem?_append_right (by simp)]
    simp
  rw [nums_get, Nat.zero_add] at e
  cases hl : (linesL (bs s))[pre.length]? with
  | none => rw [hl] at e; cases e
  | some l =>
    rw [hl] at e
    have e2 := Option.some.inj e
    unfold Ln.at at e2
    exact ⟨(congrArg Prod.fst e2).symm, by rw [show l = bs x.1.2 from congrArg Prod.snd e2]⟩

/-- what lies in memory: most, the result, the lines wanted, the count -/
structure LM (ls : List (List UInt8)) (w : World) (ms : Int) (Bw : Nat) (wa : Option Addr) (wc : Nat) (Bn : Nat) (k : Nat) (W : World) : Prop where
  m : Boxed W w.heap.size 3 (.int .i64 ms)
  r : Boxed W (w.heap.size + 1) 4 (.bool false)
  v : Boxed W Bw 27 (.slice wa ls.length wc)
  st : 0 < ls.length → ∃ b off, wa = some ⟨b, off, none⟩ ∧ b < Bw ∧ ∀ (j : Nat) x, ls[j]? = some x → W.cell? ⟨b, off + j, none⟩ = some (.string (mk x))
  n : Boxed W Bn 3 (.int .i64 (k : Int))
  bel : Below w.heap.size w W
theorem LM.low {ls : List (List UInt8)} {w : World} {ms : Int} {Bw : Nat} {wa : Option Addr} {wc Bn k : Nat} {X Y : World} {B : Nat} (h : LM ls w ms Bw wa wc Bn k X) (h1 : w.heap.size + 1 < B) (h2 : Bw < B) (h3 : Bn < B) (hB : Below B X Y) : LM ls w ms Bw wa wc Bn k Y := by
  refine ⟨(hB.block _ (by omega)).trans h.m, (hB.block _ (by omega)).trans h.r, (hB.block _ h2).trans h.v, fun h0 => ?_, (hB.block _ h3).trans h.n, h.bel.trans (hB.mono (by omega))⟩
  obtain ⟨b, off, e, hb, hc⟩ := h.st h0
  exact ⟨b, off, e, hb, fun j x hx => (hB.cell (p := ⟨b, off + j, none⟩) (by show b < B; omega)).trans (hc j x hx)⟩
theorem LM.set {ls : List (List UInt8)} {w : World} {ms : Int} {Bw : Nat} {wa : Option Addr} {wc Bn k : Nat} {W : World} (h : LM ls w ms Bw wa wc Bn k W) (h1 : w.heap.size + 1 < Bn) (h2 : Bw < Bn) (k' : Nat) (u : Int) (hu : u = (k' : Int)) : LM ls w ms Bw wa wc Bn k' (W.setCell ⟨Bn, 0, none⟩ (.int .i64 u)) := by
  subst hu
  refine ⟨h.m.other (by omega) _, h.r.other (by omega) _, h.v.other (by omega) _, fun h0 => ?_, h.n.set _, h.bel.setCell (p := ⟨Bn, 0, none⟩) (by show w.heap.size ≤ Bn; omega) _⟩
  obtain ⟨b, off, e, hb, hc⟩ := h.st h0
  refine ⟨b, off, e, hb, fun j x hx => ?_⟩
  exact (grownBy_setCell' W Bn _).cell (hc j x hx) (by intro e; have := Option.some.inj e; simp at this; omega)

def dfs (Ds : List Nat) : List Deferred := Ds.map fun D => { target := .collected D, args := #[] }
/-- the frame between two rounds of the loop that runs twice -/
abbrev lf (u : Nat → Value) (p3 p4 p5 f6 k : Value) (Ds : List Nat) : Act := { tmps := #[u 0, u 1, u 2, p3, p4, p5, f6, u 7, u 8, u 9, u 10, u 11, u 12, u 13, u 14, u 15, u 16, u 17, u 18, u 19, u 20, u 21, k, u 23, u 24, u 25, u 26, u 27, u 28, u 29, u 30, u 31, u 32, u 33, u 34, u 35, u 36, u 37, u 38, u 39, u 40, u 41, u 42, u 43, u 44, u 45, u 46, u 47, u 48, u 49, u 50, u 51, u 52, u 53, u 54, u 55, u 56, u 57, u 58, u 59, u 60, u 61, u 62, u 63, u 64, u 65, u 66], defers := dfs Ds }
theorem lf_of {p3 p4 p5 f6 k : Value} {Ds : List Nat} (a : Act) (h : a = lf (fun i => a.tmps.getD i undef) p3 p4 p5 f6 k Ds) : ∃ u, a = lf u p3 p4 p5 f6 k Ds := ⟨_, h⟩

theorem bool_ret_ds {n k base p : Nat} {f : Func} {u : Value} {tmps : Array Value} {P : Ending → World → Prop} (hf : f.results = #[ResultVar.cell k 4]) (ha : tmps[k]?.getD undef = .pointer (some ⟨p, 0, none⟩)) (hpb : p < base) :
    ∀ (Ds : List Nat) (W : World), Boxed W p 4 u → Ds.Nodup → (∀ D ∈ Ds, base ≤ D ∧ W.heap[D]? = some (.deferred (some []))) → (∀ W', Below base W W' → P (.returned u) W') →
    bodyPostM Fence.wide n Tryd.prog f P Exit.ret { tmps := tmps, defers := dfs Ds } W
  | [], W, hb, _, _, hP => by
    have c0 := hb.cell
    exact ⟨u, by simp [results, hf, go_sem, ha, c0], hP W (Below.refl _ _)⟩
  | D :: r, W, hb, hn, hD, hP => by
    obtain ⟨hD0, hK⟩ := hD D (by simp)
    have hB : Below base W (W.putObj D (.deferred none)) := below_put _ hD0
    have ih := bool_ret_ds (n := n) (P := P) hf ha hpb r (W.putObj D (.deferred none)) ((hB.block p hpb).trans hb) (List.nodup_cons.1 hn).2 (fun E hE => ⟨(hD E (by simp [hE])).1, by
      rw [World.putObj_heap_other (fun e => (List.nodup_cons.1 hn).1 (by rw [← e]; exact hE))]; exact (hD E (by simp [hE])).2⟩) (fun W' h => hP W' (hB.trans h))
    refine ⟨by simp, .inl ⟨_, _, rfl, run_takeDeferred hK, ?_⟩⟩
    exact ih

structure LI (ls : List (List UInt8)) (w : World) (ms : Int) (Bw : Nat) (wa : Option Addr) (wc : Nat) (W0 : World) (k : Nat) (X : World) : Prop where
  mem : LM ls w ms Bw wa wc W0.heap.size k X
  le : 0 < ms → (k : Int) ≤ ms
  bel : Below W0.heap.size W0 X
structure LX (ls : List (List UInt8)) (w : World) (ms : Int) (Bw : Nat) (wa : Option Addr) (wc : Nat) (W0 : World) (c : Code) (X : World) : Prop where
  c : c = .exit 2
  mem : ∃ j : Nat, LM ls w ms Bw wa wc W0.heap.size j X ∧ (j : Int) = ms ∧ 0 < ms
  bel : Below W0.heap.size W0 X

/-- behind a loop: what the next round asks -/
structure LoopEnd (w4 W X : World) (D : Nat) (Ds : List Nat) : Prop where
  old : w4.heap.size ≤ W.heap.size ∧ Below w4.heap.size w4 W ∧ Ds.Nodup ∧ (∀ D ∈ Ds, w4.heap.size ≤ D ∧ W.heap[D]? = some (.deferred (some [])))
  bel : Below W.heap.size W X
  ge : W.heap.size ≤ D
  now : X.heap[D]? = some (.deferred (some []))
theorem LoopEnd.next {w4 W X : World} {D : Nat} {Ds : List Nat} (h : LoopEnd w4 W X D Ds) : w4.heap.size ≤ X.heap.size ∧ Below w4.heap.size w4 X ∧ (D :: Ds).Nodup ∧ (∀ E ∈ D :: Ds, w4.heap.size ≤ E ∧ X.heap[E]? = some (.deferred (some []))) := by
  obtain ⟨h1, h2, h3, h4⟩ := h.old
  have hlt : ∀ E ∈ Ds, E < W.heap.size := fun E hE => (Array.getElem?_eq_some_iff.1 (h4 E hE).2).1
  refine ⟨Nat.le_trans h1 h.bel.size, h2.trans (h.bel.mono h1), List.nodup_cons.2 ⟨fun hm => ?_, h3⟩, fun E hE => ?_⟩
  · have := hlt D hm; have := h.ge; omega
  · rcases List.mem_cons.1 hE with rfl | hE
    · exact ⟨by have := h.ge; omega, h.now⟩
    · exact ⟨(h4 E hE).1, (h.bel.block E (hlt E hE)).trans (h4 E hE).2⟩

theorem run_seq_nil (W : World) (f : Nat) (p : Value) : (binOp .eql 38 (.func (.func f) #[] #[p]) .nilFunc).run Tryd.prog W = .ok (.bool false) W := by
  rfl

set_option maxRecDepth 100000 in
set_option maxHeartbeats 4000000 in
theorem quoteLines_walk (s : ByteArray) (ms : Int) (w : World) (hs : s.size ≤ 1048576) (_hms : (Lit.int .i64 ms).wf = true) (hT : Tabs w) :
    Calls Tryd.prog 5 #[.string s, .int .i64 ms] w fun e w' => e = .returned (.bool true) ∧ Below w.heap.size w w' := by
  have hs' : s.size ≤ 9223372036854775807 := by omega
  obtain ⟨w0, hw0⟩ : ∃ w0, w0 = (w.alloc (.cells #[.int .i64 ms] 3)).alloc (.cells #[.bool false] 4) := ⟨_, rfl⟩
  have hB0 : Below w.heap.size w w0 := by rw [hw0]; exact ((Below.refl _ w).alloc (Nat.le_refl _) _).alloc (by simp) _
  have hT0 := hT.below hB0
  refine (callsIn_wide (n := 5)).1 ?_
  refine callsIn_of_wp_marks Tryd.func5 rfl trivial ?_ rfl
  simp only [Tryd.ntmps5, List.size_toArray, List.length_cons, List.length_nil, Nat.reduceAdd, Nat.reduceSub, Array.replicate_succ, Array.replicate_zero, List.push_toArray, List.append_toArray, List.nil_append, List.cons_append]
  refine wpIn_wide.2 ?_
  have hsn := run_seq_nil
  go_wp2_with first
    | (go_at_call 9; rw [← hw0]; refine (wakes_any _ hT0).mono ?_; rintro e w1 ⟨rfl, hB1⟩; have hB1' : Below w.heap.size w w1 := hB0.trans (hB1.mono hB0.size); clear hT0)
    | (go_at_call 20; refine (rlines_any s _ (by omega)).mono ?_; rintro e w2 ⟨v, rfl, hO2⟩; obtain ⟨wa, wc, rfl, _, hst⟩ := wrow_strs hO2.row)
    | (go_at_call 21; refine (lines_any s _).mono ?_; rintro e w' ⟨rfl, rfl⟩)
    | (go_at_call 9; refine (wakes_any _ (hT.below (((hB1'.trans (hO2.bel.mono hB1'.size)).alloc (by have := hB1'.size; have := hO2.size; omega) _).alloc (by have := hB1'.size; have := hO2.size; simp; omega) _))).mono ?_; rintro e w4 ⟨rfl, hB4⟩)
  obtain ⟨w3, hw3⟩ : ∃ w3, w3 = (w2.alloc (.cells #[.slice wa (linesL (bs s)).length wc] 27)).alloc (.cells #[.string s] 9) := ⟨_, rfl⟩
  rw [← hw3] at hB4
  have hz0 : w0.heap.size = w.heap.size + 2 := by rw [hw0]; simp
  have hz1 := hB1.size
  have hz2 := hO2.size
  have hz3 : w3.heap.size = w2.heap.size + 2 := by rw [hw3]; simp
  have hz4 := hB4.size
  have hB3 : Below w.heap.size w w3 := by rw [hw3]; exact ((hB1'.trans (hO2.bel.mono hB1'.size)).alloc (by omega) _).alloc (by simp; omega) _
  have hB24 : Below w2.heap.size w2 w4 := by
    have h1 : Below w2.heap.size w2 w3 := by rw [hw3]; exact ((Below.refl _ _).alloc (Nat.le_refl _) _).alloc (by simp) _
    exact h1.trans (hB4.mono (by omega))
  have bT : Boxed w4 (w2.heap.size + 1) 9 (.string s) := by
    have := Boxed.new (w2.alloc (.cells #[.slice wa (linesL (bs s)).length wc] 27)) 9 (.string s)
    rw [World.size_alloc, ← hw3] at this
    exact (hB4.block _ (by omega)).trans this
  have bV : Boxed w4 w2.heap.size 27 (.slice wa (linesL (bs s)).length wc) := by
    have := (Boxed.new w2 27 (.slice wa (linesL (bs s)).length wc)).alloc (.cells #[.string s] 9)
    rw [← hw3] at this
    exact (hB4.block _ (by omega)).trans this
  have b0 : Boxed w0 w.heap.size 3 (.int .i64 ms) := by rw [hw0]; exact (Boxed.new w _ _).alloc _
  have b1 : Boxed w0 (w.heap.size + 1) 4 (.bool false) := by
    have := Boxed.new (w.alloc (.cells #[.int .i64 ms] 3)) 4 (.bool false)
    rw [World.size_alloc, ← hw0] at this
    exact this
  have hB12 : Below w1.heap.size w1 w2 := hO2.bel
  have up : ∀ k, k < w0.heap.size → w4.heap[k]? = w0.heap[k]? := fun k hk => (hB24.block k (by omega)).trans ((hB12.block k (by omega)).trans (hB1.block k hk))
  have bM : Boxed w4 w.heap.size 3 (.int .i64 ms) := (up _ (by omega)).trans b0
  have bR : Boxed w4 (w.heap.size + 1) 4 (.bool false) := (up _ (by omega)).trans b1
  have bS : 0 < (linesL (bs s)).length → ∃ b off, wa = some ⟨b, off, none⟩ ∧ b < w2.heap.size ∧ ∀ (j : Nat) x, (linesL (bs s))[j]? = some x → w4.cell? ⟨b, off + j, none⟩ = some (.string (mk x)) := fun h0 => by
    obtain ⟨b, off, e, hc⟩ := hst.2 h0
    have hc' : ∀ (j : Nat) x, (linesL (bs s))[j]? = some x → w2.cell? ⟨b, off + j, none⟩ = some (.string (mk x)) := fun j x hx => hc j (mk x) (by rw [List.getElem?_map, hx]; rfl)
    have hbl : b < w2.heap.size := by
      obtain ⟨x, hx⟩ : ∃ x, (linesL (bs s))[0]? = some x := ⟨_, List.getElem?_eq_getElem h0⟩
      exact World.block_lt_of_cell? w2 _ (hc' 0 x hx)
    exact ⟨b, off, e, hbl, fun j x hx => (hB24.cell (p := ⟨b, off + j, none⟩) hbl).trans (hc' j x hx)⟩
  have hBel : Below w.heap.size w w4 := hB3.trans (hB4.mono hB3.size)
  clear hst hO2 hB0 hw0 hB1 hB1' hB4 hB24 hB12 up b0 b1 hw3 hB3 hsn
  generalize hLs : linesL (bs s) = ls at *
  refine wp_loop (fun a W => ∃ (k : Nat) (Ds : List Nat), k ≤ 2 ∧ (∃ u, a = lf u (.pointer (some ⟨w.heap.size, 0, none⟩)) (.pointer (some ⟨w.heap.size + 1, 0, none⟩)) (.pointer (some ⟨w2.heap.size, 0, none⟩)) (.func (.func 37) #[] #[.pointer (some ⟨w2.heap.size + 1, 0, none⟩)]) (.int .i64 (k : Int)) Ds) ∧
      w4.heap.size ≤ W.heap.size ∧ Below w4.heap.size w4 W ∧ Ds.Nodup ∧ (∀ D ∈ Ds, w4.heap.size ≤ D ∧ W.heap[D]? = some (.deferred (some [])))) (fun a _ => 2 - (intOf (a.tmps.getD 22 undef)).toNat) ?_ ?_
  · exact ⟨0, [], by omega, lf_of _ rfl, Nat.le_refl _, Below.refl _ _, List.nodup_nil, fun D h => by cases h⟩
  · rintro a W ⟨k, Ds, hk, ⟨u, rfl⟩, hWs, hWB, hnd, hDs⟩
    by_cases hk2 : k < 2
    · have ik : (k : Int) < 2 := by omega
      have bRW : Boxed W (w.heap.size + 1) 4 (.bool false) := (hWB.block _ (by omega)).trans bR
      have HM : Hid (LM ls w ms w2.heap.size wa wc W.heap.size 0 (W.alloc (.cells #[.int .i64 0] 3))) := by
        have hBW : Below W.heap.size W (W.alloc (.cells #[.int .i64 0] 3)) := (Below.refl _ _).alloc (Nat.le_refl _) _
        have hB4W : Below w4.heap.size w4 (W.alloc (.cells #[.int .i64 0] 3)) := hWB.trans (hBW.mono hWs)
        refine ⟨(hB4W.block _ (by omega)).trans bM, (hB4W.block _ (by omega)).trans bR, (hB4W.block _ (by omega)).trans bV, fun h0 => ?_, Boxed.new W _ _, hBel.trans (hB4W.mono hBel.size)⟩
        obtain ⟨b, off, e, hb, hc⟩ := bS h0
        exact ⟨b, off, e, hb, fun j x hx => (hB4W.cell (p := ⟨b, off + j, none⟩) (by show b < w4.heap.size; omega)).trans (hc j x hx)⟩
      have bTW : Boxed (W.alloc (.cells #[.int .i64 0] 3)) (w2.heap.size + 1) 9 (.string s) := Boxed.alloc ((hWB.block _ (by omega)).trans bT) _
      have HW : Hid (w4.heap.size ≤ W.heap.size ∧ Below w4.heap.size w4 W ∧ Ds.Nodup ∧ (∀ D ∈ Ds, w4.heap.size ≤ D ∧ W.heap[D]? = some (.deferred (some [])))) := ⟨hWs, hWB, hnd, hDs⟩
      clear hWB hnd hDs bM bR bV bS bT hBel bRW
      go_wp2
      obtain ⟨X0, hX0⟩ : ∃ X0, X0 = W.alloc (.cells #[.int .i64 0] 3) := ⟨_, rfl⟩
      have hX0s : X0.heap.size = W.heap.size + 1 := by rw [hX0]; simp
      have hX0B : Below W.heap.size W X0 := by rw [hX0]; exact (Below.refl _ _).alloc (Nat.le_refl _) _
      rw [← hX0] at HM bTW ⊢
      clear hX0
      refine (wpIn_wide (n := 5)).1 ?_
      refine range_stops (w := X0) (m := 3) rfl (by omega) (gf := 37) (lb := #[.pointer (some ⟨w2.heap.size + 1, 0, none⟩)]) rfl trivial (enters_of Tryd.func37 (by kernel_rfl) rfl)
        (lines_tells s (by unfold maxLen; omega) X0 (w2.heap.size + 1) bTW 4 3 (by omega) rfl) (fun k hk => by rw [hk]; exact bTW.lt) (fun _ => rfl)
        (fun pre X => LI ls w ms w2.heap.size wa wc W pre.length X)
        (fun c _ X => LX ls w ms w2.heap.size wa wc W c X)
        (fun _ X Y h hX hB => ⟨h.mem.low (by omega) (by omega) (by omega) hB, h.le, h.bel.trans (hB.mono (by omega))⟩)
        (fun c _ X Y h hX hB => by
          obtain ⟨j, hj, h2⟩ := h.mem
          exact ⟨h.c, ⟨j, hj.low (by omega) (by omega) (by omega) hB, h2⟩, h.bel.trans (hB.mono (by omega))⟩)
        ⟨HM.out, fun h => by simp; omega, hX0B⟩ ?act ?assign ?body ?done ?stop
      case assign =>
        intro l x X K hK
        gi_wp2
        exact hK
      case body =>
        rintro l pre ⟨⟨xn, Y⟩, hx⟩ X hXs ⟨hM, hle, hBX⟩ hsp
        obtain ⟨hxn, hxl⟩ := next_line hsp
        rw [hLs] at hxl
        simp only at hxn hxl
        have hL0 : pre.length < ls.length := (List.getElem?_eq_some_iff.1 hxl).1
        obtain ⟨b, off, rfl, hbw, hc⟩ := hM.st (by omega)
        have q := hc _ _ hxl
        rw [mk_bs] at q
        have cN := hM.n.cell
        have fN := hM.n.frozen
        have cM := hM.m.cell
        have cV := hM.v.cell
        obtain ⟨L, hL⟩ : ∃ L, L = pre.length := ⟨_, rfl⟩
        rw [← hL] at hL0 q cN hle hxn
        have HM2 : Hid (LM ls w ms w2.heap.size (some ⟨b, off, none⟩) wc W.heap.size pre.length X ∧ Below W.heap.size W X) := ⟨hM, hBX⟩
        have HL : Hid (L = pre.length) := hL
        have hll : ls.length ≤ s.size + 1 := by
          have := cutN_len (bs s) []
          rw [← hLs]
          rw [bs_len] at this; exact this
        have hxn' := hxn.symm
        subst hxn'
        have i3 : ¬ (ls.length : Int) ≤ L := by omega
        have i4 : (L : Int) < ls.length := by omega
        have i5 : ¬ ls.length ≤ L := by omega
        have i6 : (L : Int) + 1 ≤ 9223372036854775807 := by omega
        have hyy : (Y.toList == Y.toList) = true := by simp
        have HK : Hid (Kept X0.heap.size (fun k => k = w2.heap.size + 1) X (X.setCell ⟨W.heap.size, 0, none⟩ (.int .i64 ((L : Int) + 1)))) := by
          refine ⟨KeepsWalks.setCell _ _ _, fun j hj _ => Below.heap_setCell _ _ _ _ ?_⟩
          show j ≠ W.heap.size
          rcases hj with hj | hj <;> omega
        have HE : Hid ((0 < ms → (L : Int) + 1 ≤ ms) → Kept (W.heap.size + 1) (fun k => k = w2.heap.size + 1) X (X.setCell ⟨W.heap.size, 0, none⟩ (.int .i64 ((L : Int) + 1))) ∧ LI ls w ms w2.heap.size (some ⟨b, off, none⟩) wc W (pre ++ [(⟨(L, Y), hx⟩ : Ln s)]).length (X.setCell ⟨W.heap.size, 0, none⟩ (.int .i64 ((L : Int) + 1)))) := fun h => by
          rw [← hX0s]
          refine ⟨HK.out, ?_, fun h0 => ?_, HM2.out.2.setCell (p := ⟨W.heap.size, 0, none⟩) (Nat.le_refl _) _⟩
          · rw [List.length_append, List.length_singleton, ← HL.out]
            exact HM2.out.1.set (by omega) (by omega) (L + 1) _ (by simp)
          · rw [List.length_append, List.length_singleton, ← HL.out]
            have := h h0; simp; omega
        clear hM hc hxl hBX hsp hL HM bTW
        by_cases h1 : ms ≤ (L : Int)
        · by_cases h2 : 0 < ms
          · have hLm := hle h2
            clear hle
            gi_wp2
            refine ⟨⟨KeepsWalks.refl _, fun _ _ _ => rfl⟩, rfl, ⟨pre.length, HM2.out.1, ?_, h2⟩, HM2.out.2⟩
            rw [← HL.out]; omega
          · clear hle
            gi_wp2
            exact HE.out (fun h => by omega)
        · clear hle
          gi_wp2
          exact HE.out (fun h => by omega)
      case done =>
        rintro D xs X hD hS ⟨hM, hle, hBX⟩ hK
        have hxs : xs.length = ls.length := by
          have := congrArg List.length hS
          rw [List.length_map, nums_len, hLs] at this; exact this
        rw [hxs] at hM
        have cN := hM.n.cell
        have cM := hM.m.cell
        have cV := hM.v.cell
        have HF : Hid (LoopEnd w4 W X D Ds) := ⟨HW.out, hBX, by omega, hK⟩
        clear hM hle hBX hK hS HM bTW HW hxs
        gi_wp2
        go_wp2_with fail
        refine ⟨⟨k + 1, D :: Ds, by omega, lf_of _ (by simp only [lf]; rfl), HF.out.next⟩, ?_⟩
        simp [intOf]; omega
      case stop =>
        rintro D c pre X hD hS ⟨rfl, ⟨j, hM, hjm, hm0⟩, hBX⟩ hK
        have cN := hM.n.cell
        have cM := hM.m.cell
        have cV := hM.v.cell
        have HF : Hid (LoopEnd w4 W X D Ds) := ⟨HW.out, hBX, by omega, hK⟩
        rw [hjm] at cN
        have hm1 : ¬ ms ≤ 0 := by omega
        clear hM hBX hK hS HM bTW HW
        by_cases hjl : ms = (ls.length : Int)
        · rw [hjl] at cN cM
          gi_wp2
          go_wp2_with fail
          refine ⟨⟨k + 1, D :: Ds, by omega, lf_of _ (by simp only [lf]; rfl), HF.out.next⟩, ?_⟩
          simp [intOf]; omega
        · gi_wp2
          go_wp2_with fail
          refine ⟨⟨k + 1, D :: Ds, by omega, lf_of _ (by simp only [lf]; rfl), HF.out.next⟩, ?_⟩
          simp [intOf]; omega
    · obtain rfl : k = 2 := by omega
      have bRW : Boxed W (w.heap.size + 1) 4 (.bool false) := (hWB.block _ (by omega)).trans bR
      have cR := bRW.cell
      have fR := bRW.frozen
      have HW : Hid (w4.heap.size ≤ W.heap.size ∧ Below w4.heap.size w4 W ∧ Ds.Nodup ∧ (∀ D ∈ Ds, w4.heap.size ≤ D ∧ W.heap[D]? = some (.deferred (some [])))) := ⟨hWs, hWB, hnd, hDs⟩
      have HB : Hid (Below w.heap.size w w4) := hBel
      have HR : Hid (Boxed W (w.heap.size + 1) 4 (.bool false)) := bRW
      clear hWB hnd hDs bM bR bV bS bT hBel bRW
      go_wp2
      obtain ⟨_, hWB, hnd, hDs⟩ := HW.out
      refine bool_ret_ds (k := 4) (base := w4.heap.size) (p := w.heap.size + 1) rfl rfl (by omega) Ds _ (HR.out.set _) hnd (fun D hD => ⟨(hDs D hD).1, ?_⟩) (fun W' h => ⟨rfl, ?_⟩)
      · rw [Below.heap_setCell _ _ _ _ (by show D ≠ w.heap.size + 1; have := (hDs D hD).1; omega)]; exact (hDs D hD).2
      · exact ((HB.out.trans (hWB.mono HB.out.size)).setCell (p := ⟨w.heap.size + 1, 0, none⟩) (by show w.heap.size ≤ w.heap.size + 1; omega) _).trans (h.mono HB.out.size)
end Go.Proofs.YtfppfbalhhbjdaaDoor
