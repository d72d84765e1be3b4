/- The walk of the law NameParts. -/
import Derived.Test.YtadmpobnpnbgoaaDoorNNames
import Derived.Test.YtadmpobnpnbgoaaDoorNRefPath
import Derived.Test.YtadmpobnpnbgoaaDoorNRefMake
import Derived.Test.YtadmpobnpnbgoaaDoorNApp
import Derived.Laws.OwnMore
namespace Go.Proofs.YtadmpobnpnbgoaaDoor
open Go.RowKit Go.Shelf

attribute [local go_sem] Oper.semAt_some

/-- what lies in memory: the result, the names wanted -/
structure PM (ws : List ByteArray) (w : World) (Bw Bd : Nat) (wa : Option Addr) (wc : Nat) (W : World) : Prop where
  r : Boxed W w.heap.size 4 (.bool false)
  v : Boxed W Bw 29 (.slice wa ws.length wc)
  st : 0 < ws.length → ∃ b off, wa = some ⟨b, off, none⟩ ∧ b < Bd ∧ ∀ (j : Nat) x, ws[j]? = some x → W.cell? ⟨b, off + j, none⟩ = some (.string x)
  bel : Below w.heap.size w W
theorem PM.low {ws : List ByteArray} {w : World} {Bw Bd : Nat} {wa : Option Addr} {wc : Nat} {X Y : World} {B : Nat} (h : PM ws w Bw Bd wa wc X) (h1 : w.heap.size < B) (h2 : Bw < B) (h3 : Bd ≤ B) (hB : Below B X Y) : PM ws w Bw Bd wa wc Y := by
  refine ⟨(hB.block _ (by omega)).trans h.r, (hB.block _ h2).trans h.v, fun h0 => ?_, h.bel.trans (hB.mono (by omega))⟩
  obtain ⟨b, off, e, hb, hc⟩ := h.st h0
  exact ⟨b, off, e, hb, fun j x hx => (hB.cell (p := ⟨b, off + j, none⟩) (by show b < B; omega)).trans (hc j x hx)⟩
theorem PM.strs {ws : List ByteArray} {w : World} {Bw Bd : Nat} {wa : Option Addr} {wc : Nat} {X : World} (h : PM ws w Bw Bd wa wc X) : Strs X wa ws.length ws :=
  ⟨rfl, fun h0 => by
    obtain ⟨b, off, e, _, hc⟩ := h.st h0
    exact ⟨b, off, e, hc⟩⟩
/-- a row of texts of the call's own -/
def OwnR (B : Nat) (v : Value) (n : Nat) (W : World) : Prop := ∃ xs, W.ownsRow B 9 1 v n xs
theorem row_blockS {W : World} {base n : Nat} {e : TypeId} {v : Value} {xs : List Value} (h : W.ownsRow base e 1 v n xs) : ∀ r, v.ownBlock = some r → base ≤ r := fun r hr => (ownBlock_ge h r hr).1
theorem below_gr {W W' : World} {B n : Nat} {v : Value} {xs : List Value} (h : W.ownsRow B 9 1 v n xs) (hB : B ≤ W.heap.size) (hg : W.grownBy W' v.ownBlock) : Below B W W' :=
  ⟨hg.os, hg.tape, hg.output, hg.size, fun k hk => hg.block k (by omega) (fun e => by have := row_blockS h k e.symm; omega)⟩

def dfs (Ds : List Nat) : List Deferred := Ds.map fun D => { target := .collected D, args := #[] }
/-- the frame between two rounds of the loop that runs twice -/
abbrev lf (u : Nat → Value) (p0 p2 p3 p4 f9 k : Value) (Ds : List Nat) : Act := { tmps := #[p0, u 1, p2, p3, p4, u 5, u 6, u 7, u 8, f9, k, u 11, u 12, u 13, u 14, u 15, u 16, u 17, u 18, u 19, u 20, u 21, u 22, u 23, u 24, u 25, u 26, u 27, u 28, u 29, u 30, u 31, u 32, u 33, u 34, u 35, u 36, u 37, u 38, u 39, u 40, u 41, u 42, u 43, u 44, u 45, u 46, u 47, u 48, u 49, u 50, u 51, u 52, u 53, u 54, u 55, u 56, u 57, u 58, u 59, u 60, u 61, u 62, u 63, u 64, u 65, u 66, u 67, u 68, u 69, u 70, u 71, u 72, u 73, u 74, u 75, u 76, u 77, u 78, u 79, u 80, u 81, u 82, u 83, u 84, u 85, u 86, u 87, u 88, u 89, u 90, u 91, u 92, u 93, u 94, u 95, u 96, u 97, u 98, u 99, u 100, u 101, u 102, u 103, u 104, u 105, u 106], defers := dfs Ds }
theorem lf_of {p0 p2 p3 p4 f9 k : Value} {Ds : List Nat} (a : Act) (h : a = lf (fun i => a.tmps.getD i undef) p0 p2 p3 p4 f9 k Ds) : ∃ u, a = lf u p0 p2 p3 p4 f9 k Ds := ⟨_, h⟩

theorem bool_ret_ds {n k base p : Nat} {f : Func} {u : Value} {tmps : Array Value} {P : Ending → World → Prop} (hf : f.results = #[ResultVar.cell k 4]) (ha : tmps[k]?.getD undef = .pointer (some ⟨p, 0, none⟩)) (hpb : p < base) :
    ∀ (Ds : List Nat) (W : World), Boxed W p 4 u → Ds.Nodup → (∀ D ∈ Ds, base ≤ D ∧ W.heap[D]? = some (.deferred (some []))) → (∀ W', Below base W W' → P (.returned u) W') →
    bodyPostM Fence.wide n Tryd.prog f P Exit.ret { tmps := tmps, defers := dfs Ds } W
  | [], W, hb, _, _, hP => by
    have c0 := hb.cell
    exact ⟨u, by simp [results, hf, go_sem, ha, c0], hP W (Below.refl _ _)⟩
  | D :: r, W, hb, hn, hD, hP => by
    obtain ⟨hD0, hK⟩ := hD D (by simp)
    have hB : Below base W (W.putObj D (.deferred none)) := below_put _ hD0
    have ih := bool_ret_ds (n := n) (P := P) hf ha hpb r (W.putObj D (.deferred none)) ((hB.block p hpb).trans hb) (List.nodup_cons.1 hn).2 (fun E hE => ⟨(hD E (by simp [hE])).1, by
      rw [World.putObj_heap_other (fun e => (List.nodup_cons.1 hn).1 (by rw [← e]; exact hE))]; exact (hD E (by simp [hE])).2⟩) (fun W' h => hP W' (hB.trans h))
    refine ⟨by simp, .inl ⟨_, _, rfl, run_takeDeferred hK, ?_⟩⟩
    exact ih

/-- behind a loop: what the next round asks -/
structure LoopEnd (w4 W X : World) (D : Nat) (Ds : List Nat) : Prop where
  old : w4.heap.size ≤ W.heap.size ∧ Below w4.heap.size w4 W ∧ Ds.Nodup ∧ (∀ D ∈ Ds, w4.heap.size ≤ D ∧ W.heap[D]? = some (.deferred (some [])))
  bel : Below W.heap.size W X
  ge : W.heap.size ≤ D
  now : X.heap[D]? = some (.deferred (some []))
theorem LoopEnd.next {w4 W X : World} {D : Nat} {Ds : List Nat} (h : LoopEnd w4 W X D Ds) : w4.heap.size ≤ X.heap.size ∧ Below w4.heap.size w4 X ∧ (D :: Ds).Nodup ∧ (∀ E ∈ D :: Ds, w4.heap.size ≤ E ∧ X.heap[E]? = some (.deferred (some []))) := by
  obtain ⟨h1, h2, h3, h4⟩ := h.old
  have hlt : ∀ E ∈ Ds, E < W.heap.size := fun E hE => (Array.getElem?_eq_some_iff.1 (h4 E hE).2).1
  refine ⟨Nat.le_trans h1 h.bel.size, h2.trans (h.bel.mono h1), List.nodup_cons.2 ⟨fun hm => ?_, h3⟩, fun E hE => ?_⟩
  · have := hlt D hm; have := h.ge; omega
  · rcases List.mem_cons.1 hE with rfl | hE
    · exact ⟨by have := h.ge; omega, h.now⟩
    · exact ⟨(h4 E hE).1, (h.bel.block E (hlt E hE)).trans (h4 E hE).2⟩


theorem next_name {ws : List ByteArray} {pre : List (Nat × ByteArray)} {x : Nat × ByteArray} (h : ∃ rest, (pre ++ [x]) ++ rest = numB ws) : x.1 = pre.length ∧ ws[pre.length]? = some x.2 := by
  obtain ⟨rest, h⟩ := h
  have e : (numB ws)[pre.length]? = some x := by
    rw [← h, List.append_assoc, List.getElem?_append_right (Nat.le_refl _)]
    simp
  unfold numB at e
  rw [List.getElem?_map, List.getElem?_zipIdx] at e
  cases hl : ws[pre.length]? with
  | none => rw [hl] at e; cases e
  | some l =>
    rw [hl] at e
    have e2 := Option.some.inj e
    rw [← e2]
    exact ⟨by simp, rfl⟩
theorem numB_len (ws : List ByteArray) : (numB ws).length = ws.length := by simp [numB]
structure PI (ws : List ByteArray) (w : World) (Bw Bd : Nat) (wa : Option Addr) (wc : Nat) (S : ByteArray) (Bt : Nat) (W0 X : World) : Prop where
  mem : PM ws w Bw Bd wa wc X
  t : Boxed X Bt 9 (.string S)
  bel : Below W0.heap.size W0 X
theorem PI.low {ws : List ByteArray} {w : World} {Bw Bd : Nat} {wa : Option Addr} {wc : Nat} {S : ByteArray} {Bt : Nat} {W0 X Y : World} {B : Nat} (h : PI ws w Bw Bd wa wc S Bt W0 X) (h1 : w.heap.size < B) (h2 : Bw < B) (h3 : Bd ≤ B) (h4 : Bt < B) (h5 : W0.heap.size ≤ B) (hB : Below B X Y) : PI ws w Bw Bd wa wc S Bt W0 Y :=
  ⟨h.mem.low h1 h2 h3 hB, (hB.block _ h4).trans h.t, h.bel.trans (hB.mono h5)⟩
structure PN (ws : List ByteArray) (w : World) (Bw Bd : Nat) (wa : Option Addr) (wc : Nat) (S : ByteArray) (Bt : Nat) (W0 : World) (k : Nat) (X : World) : Prop where
  pi : PI ws w Bw Bd wa wc S Bt W0 X
  n : Boxed X W0.heap.size 3 (.int .i64 (k : Int))
theorem PN.low {ws : List ByteArray} {w : World} {Bw Bd : Nat} {wa : Option Addr} {wc : Nat} {S : ByteArray} {Bt : Nat} {W0 X Y : World} {k B : Nat} (h : PN ws w Bw Bd wa wc S Bt W0 k X) (h1 : w.heap.size < B) (h2 : Bw < B) (h3 : Bd ≤ B) (h4 : Bt < B) (h5 : W0.heap.size < B) (hB : Below B X Y) : PN ws w Bw Bd wa wc S Bt W0 k Y :=
  ⟨h.pi.low h1 h2 h3 h4 (by omega) hB, (hB.block _ h5).trans h.n⟩
theorem PN.set {ws : List ByteArray} {w : World} {Bw Bd : Nat} {wa : Option Addr} {wc : Nat} {S : ByteArray} {Bt : Nat} {W0 X : World} {k : Nat} (h : PN ws w Bw Bd wa wc S Bt W0 k X) (h1 : w.heap.size < W0.heap.size) (h2 : Bw < W0.heap.size) (h3 : Bd ≤ W0.heap.size) (h4 : Bt < W0.heap.size) (k' : Nat) (u : Int) (hu : u = (k' : Int)) : PN ws w Bw Bd wa wc S Bt W0 k' (X.setCell ⟨W0.heap.size, 0, none⟩ (.int .i64 u)) := by
  subst hu
  exact ⟨h.pi.low h1 h2 h3 h4 (Nat.le_refl _) ((Below.refl _ X).setCell (p := ⟨W0.heap.size, 0, none⟩) (Nat.le_refl _) _), h.n.set _⟩

structure SX (W0 : World) (c : Code) (X : World) : Prop where
  c : c = .exit 8
  bel : Below W0.heap.size W0 X
theorem run_seq_nilN (W : World) (f : Nat) (p : Value) : (binOp .eql 35 (.func (.func f) #[] #[p]) .nilFunc).run Tryd.prog W = .ok (.bool false) W := by
  rfl
theorem cells_two (W : World) (t : TypeId) (a b : Value) : ∀ (j : Nat) u, [a, b][j]? = some u → (W.alloc (.cells #[a, b] t)).cell? (Addr.add ⟨W.heap.size, 0, none⟩ j) = some u := by
  intro j u hj
  match j, hj with
  | 0, hj => simp at hj; subst hj; simp [Addr.add]
  | 1, hj => simp at hj; subst hj; simp [Addr.add]

set_option maxRecDepth 100000 in
set_option maxHeartbeats 8000000 in
theorem nameParts_walk (s : ByteArray) (w : World) (hs : s.size ≤ maxLen) :
    Calls Tryd.prog 4 #[.string s] w fun e w' => e = .returned (.bool true) ∧ Below w.heap.size w w' := by
  have hca := fun w => cut_any s w hs
  have hS := cutT_size s
  generalize cutT s = S at hca hS
  have hrp := fun w => refPath_any S w (by omega)
  have hpa := fun w => parts_any S w (by omega)
  have hsp := fun w => Split_any S w (by omega)
  have hdp := fun w => Depth_any S w (by omega)
  have hns : namesOf S = if isP (bs S) then (parts (bs S)).map mk else [] := rfl
  have hpc := parts_count (bs S)
  rw [bs_len] at hpc
  simp only [spotV] at hrp
  have hf0 := field0
  obtain ⟨i0, hi0, hzz0, hzz1, hzz2⟩ := info_parts Tryd.info9
  unfold depthP at hdp
  cases hP : isP (bs S) with
  | true =>
    rw [hP] at hns hsp hdp
    simp only [if_true] at hns hsp hdp
    have hE : (pathSpot (bs S)).1 = 0 := by unfold isP at hP; simpa using hP
    rw [hE] at hrp hsp
    generalize (pathSpot (bs S)).2 = E2 at hrp
    obtain ⟨ws, hws⟩ : ∃ ws, ws = (parts (bs S)).map mk := ⟨_, rfl⟩
    have hwl : ws.length = (parts (bs S)).length := by rw [hws]; simp
    have hwn : ws.length ≤ 5000 := by rw [hwl]; omega
    rw [← hws] at hsp hns hpa
    rw [← hwl] at hdp hpa
    clear hpc hws hwl hE
    obtain ⟨w0, hw0⟩ : ∃ w0, w0 = w.alloc (.cells #[.bool false] 4) := ⟨_, rfl⟩
    have hB0 : Below w.heap.size w w0 := by rw [hw0]; exact (Below.refl _ w).alloc (Nat.le_refl _) _
    have hz0 : w0.heap.size = w.heap.size + 1 := by rw [hw0]; simp
    have bR0 : Boxed w0 w.heap.size 4 (.bool false) := by rw [hw0]; exact Boxed.new _ _ _
    refine (callsIn_wide (n := 9)).1 ?_
    refine callsIn_of_wp_marks Tryd.func4 rfl trivial ?_ rfl
    simp only [Tryd.ntmps4, List.size_toArray, List.length_cons, List.length_nil, Nat.reduceAdd, Nat.reduceSub, Array.replicate_succ, Array.replicate_zero, List.push_toArray, List.append_toArray, List.nil_append, List.cons_append]
    refine wpIn_wide.2 ?_
    go_wp2_with first
      | (go_at_call 8; rw [← hw0]; refine (wakes_any _).mono ?_; rintro e w1 ⟨rfl, hB1⟩)
      | (go_at_call 9; refine (hca _).mono ?_; clear hca; rintro e w1' ⟨rfl, hh⟩; subst hh)
      | (go_at_call 13; refine (hrp _).mono ?_; clear hrp; rintro e w2 ⟨rfl, hB2⟩)
      | (go_at_call 14; refine (hpa _).mono ?_; clear hpa; rintro e w3 ⟨⟨wa, rfl, hst, hna⟩, hB3⟩; have hbx : Boxed w3 w2.heap.size 29 (.slice none 0 0) := (hB3.block _ (by simp)).trans (Boxed.new w2 _ _); have cbx := hbx.cell; have fbx := hbx.frozen)
    have hz1 := hB1.size
    have hz2 := hB2.size
    have hB02 : Below w.heap.size w w2 := (hB0.trans (hB1.mono hB0.size)).trans (hB2.mono (by omega))
    have bR2 : Boxed w2 w.heap.size 4 (.bool false) := (hB2.block _ (by omega)).trans ((hB1.block _ (by omega)).trans bR0)
    have hz3 : w2.heap.size + 1 ≤ w3.heap.size := by have := hB3.size; rw [World.size_alloc] at this; exact this
    have HPM : Hid (PM ws w w2.heap.size w3.heap.size wa ws.length (w3.setCell ⟨w2.heap.size, 0, none⟩ (.slice wa ws.length ws.length)) ∧ w3.heap.size ≤ (w3.setCell ⟨w2.heap.size, 0, none⟩ (.slice wa ws.length ws.length)).heap.size) := by
      refine ⟨⟨?_, hbx.set _, fun h0 => ?_, ?_⟩, by simp⟩
      · exact Boxed.other ((hB3.block _ (by simp; omega)).trans (Boxed.alloc bR2 _)) (by omega) _
      · obtain ⟨b, off, e, hc⟩ := hst.2 h0
        have hbl : ∀ j x, ws[j]? = some x → b < w3.heap.size ∧ b ≠ w2.heap.size := fun j x hx => by
          have h := hc j x hx
          refine ⟨World.block_lt_of_cell? w3 _ h, fun eb => ?_⟩
          subst eb
          have hb' : w3.heap[w2.heap.size]? = _ := hbx
          simp only [World.cell?, hb'] at h
          rcases Nat.eq_zero_or_pos (off + j) with hz | hz
          · rw [hz] at h; cases h
          · rw [Array.getElem?_eq_none (by simp; omega)] at h; cases h
        obtain ⟨x0, hx0⟩ : ∃ x0, ws[0]? = some x0 := ⟨_, List.getElem?_eq_getElem h0⟩
        refine ⟨b, off, e, (hbl 0 x0 hx0).1, fun j x hx => (grownBy_setCell' w3 w2.heap.size _).cell (hc j x hx) (fun e => (hbl j x hx).2 (Option.some.inj e))⟩
      · exact ((hB02.alloc (by omega) _).trans (hB3.mono (by simp; omega))).setCell (p := ⟨w2.heap.size, 0, none⟩) (by show w.heap.size ≤ w2.heap.size; omega) _
    clear hst hna hbx cbx fbx hB3 bR2 hB02 hB1 hB2 hB0 bR0 hw0
    go_loopw [5] (fun i wr => ∃ k : Nat, k ≤ 2 ∧ i = .int .i64 (k : Int) ∧ Hid (PM ws w w2.heap.size w3.heap.size wa ws.length wr ∧ w3.heap.size ≤ wr.heap.size)) (fun i _ => 2 - (intOf i).toNat)
    case atStart => exact ⟨0, by omega, rfl, HPM.out⟩
    case round =>
      clear HPM
      obtain ⟨k, hk, rfl, H⟩ := hrel
      obtain ⟨wq, hwq⟩ : ∃ wq, wq = wr := ⟨_, rfl⟩
      subst hwq
      by_cases hk2 : k < 2
      · have ik : (k : Int) < 2 := by omega
        have HT : Hid (∀ X a c, Strs X a ws.length ws → PM ws w w2.heap.size w3.heap.size wa ws.length X → Calls Tryd.prog 16 #[.slice a ws.length c, .slice wa ws.length ws.length] X fun e w' => e = .returned (.bool true) ∧ Below X.heap.size X w') := fun X a c h1 h2 => texts_yes X a wa ws.length c ws.length ws h1 h2.strs (by first | omega | simp)
        go_wp2_with first
          | (go_at_call 15; refine (hsp _).mono ?_; rintro e x1 ⟨⟨v, rfl, ho⟩, hB1⟩; obtain ⟨la, lc, rfl, hlc, hst⟩ := row_strs ho; have H1 : Hid (PM ws w w2.heap.size w3.heap.size wa ws.length x1 ∧ x1.ownsRow wq.heap.size 9 1 (.slice la ws.length lc) ws.length (ws.map Value.string)) := ⟨H.out.1.low (by have := H.out.2; omega) (by have := H.out.2; omega) H.out.2 hB1, ho⟩; have cV := H1.out.1.v.cell; have hx1 := hB1.size; clear ho)
          | (go_at_call 16; refine (HT.out _ _ _ hst H1.out.1).mono ?_; rintro e x2 ⟨rfl, hB2⟩; have H2 : Hid (PM ws w w2.heap.size w3.heap.size wa ws.length x2 ∧ OwnR wq.heap.size (.slice la ws.length lc) ws.length x2 ∧ wq.heap.size ≤ x2.heap.size) := ⟨H1.out.1.low (by have := H.out.2; omega) (by have := H.out.2; omega) (by have := H.out.2; omega) hB2, ⟨_, H1.out.2.kept (row := none) ⟨hB2.os, hB2.tape, hB2.output, hB2.size, fun k hk _ => hB2.block k hk⟩ (by cases (Value.slice la ws.length lc).ownBlock <;> simp)⟩, by have := hB2.size; omega⟩; clear hst cV H1 hB2)
        go_loopw [46] (fun j wr => ∃ m : Nat, m ≤ ws.length ∧ j = .int .i64 (m : Int) ∧ Hid (PM ws w w2.heap.size w3.heap.size wa ws.length wr ∧ OwnR wq.heap.size (.slice la ws.length lc) ws.length wr ∧ wq.heap.size ≤ wr.heap.size)) (fun j _ => ws.length - (intOf j).toNat)
        case atStart => exact ⟨0, Nat.zero_le _, rfl, H2.out⟩
        case round =>
          clear H2
          obtain ⟨m, hm, rfl, H3⟩ := hrel
          by_cases hml : m < ws.length
          · obtain ⟨xs, ho⟩ := H3.out.2.1
            obtain ⟨g, hg⟩ : ∃ g, la = some ⟨g, 0, none⟩ := by
              rcases ho.2 with ⟨h', h0⟩ | ⟨g, cap, cur, h', _⟩
              · omega
              · exact ⟨g, by cases h'; rfl⟩
            subst hg
            have hgb := (ownBlock_ge ho g rfl).1
            obtain ⟨z, hz⟩ : ∃ z, xs[m]? = some z := ⟨_, List.getElem?_eq_getElem (by have := ho.1; omega)⟩
            have cz : wr.cell? ⟨g, m, none⟩ = some z := (ho.cellAt m (by omega)).trans hz
            have fz := ho.frozenAt m
            obtain ⟨ho2, hg2⟩ := ho.stored m (.string ⟨#[33]⟩)
            have H4 : Hid (PM ws w w2.heap.size w3.heap.size wa ws.length (wr.setCell ⟨g, m, none⟩ (.string ⟨#[33]⟩)) ∧ OwnR wq.heap.size (.slice (some ⟨g, 0, none⟩) ws.length lc) ws.length (wr.setCell ⟨g, m, none⟩ (.string ⟨#[33]⟩)) ∧ wq.heap.size ≤ (wr.setCell ⟨g, m, none⟩ (.string ⟨#[33]⟩)).heap.size) :=
              ⟨H3.out.1.low (by have := H.out.2; omega) (by have := H.out.2; omega) H.out.2 ((Below.refl _ wr).setCell (p := ⟨g, m, none⟩) hgb _), ⟨_, ho2⟩, by simp; exact H3.out.2.2⟩
            have iml : (m : Int) < (ws.length : Int) := by omega
            have iml2 : ¬ ws.length ≤ m := by omega
            clear ho ho2 hg2 hz H3
            go_wp2
            go_roundw
            case rel => exact ⟨m + 1, by omega, by simp, H4.out⟩
            case measure => simp [intOf]; omega
          · have hme : m = ws.length := by omega
            subst hme
            have iml : ¬ ((ws.length : Nat) : Int) < ((ws.length : Nat) : Int) := by omega
            obtain ⟨xs, ho⟩ := H3.out.2.1
            have H4 : Hid (PM ws w w2.heap.size w3.heap.size wa ws.length wr ∧ wq.heap.size ≤ wr.heap.size) := ⟨H3.out.1, H3.out.2.2⟩
            have hsz := H3.out.2.2
            have hoB : wq.heap.size ≤ wr.heap.size + 1 := by omega
            clear H3
            go_wp2_with (at_builtin; refine wpList_append_own _ rfl _ _ 29 rfl wq.heap.size 9 i0 (.string ⟨#[]⟩) 1 16 Tryd.underlying29 hi0 hzz0 hzz1 hzz2 rfl (by decide) _ ws.length _ rfl (ho.alloc _) ⟨_, 0, none⟩ 2 2 [.string ⟨#[33]⟩, .string ⟨#[33]⟩] rfl rfl (cells_two _ _ _ _) (by simp [Value.oneCell']) (by unfold maxLen; first | omega | simp) (by first | omega | simp) (by simp; omega) ?_; intro v' x5 hown5 hgr5 _; have HB5 : Below wq.heap.size wr x5 := ((Below.refl _ wr).alloc hsz _).trans (below_gr (ho.alloc _) (by simp; omega) hgr5); have H5 : Hid (PM ws w w2.heap.size w3.heap.size wa ws.length x5 ∧ w3.heap.size ≤ x5.heap.size) := ⟨H4.out.1.low (by have := H.out.2; omega) (by have := H.out.2; omega) (by have := H.out.2; omega) HB5, by have := H.out.2; have := HB5.size; omega⟩; obtain ⟨ad5, cp5, hv5, _⟩ := srow_shape hown5; subst hv5; clear hown5 hgr5 HB5 ho)
            exact ⟨⟨k + 1, by omega, by simp, H5.out⟩, by simp [intOf]; omega⟩
      · obtain rfl : k = 2 := by omega
        have HB : Hid (PM ws w w2.heap.size w3.heap.size wa ws.length wq ∧ w3.heap.size ≤ wq.heap.size) := H
        clear H
        have hsn := run_seq_nilN
        go_wp2_with (go_at_call 17; refine (Names_any S _).mono ?_; rintro e y1 ⟨rfl, hy⟩; subst hy)
        obtain ⟨w4, hw4⟩ : ∃ w4, w4 = wq.alloc (.cells #[.string S] 9) := ⟨_, rfl⟩
        have hz4 : w4.heap.size = wq.heap.size + 1 := by rw [hw4]; simp
        have hB4 : Below wq.heap.size wq w4 := by rw [hw4]; exact (Below.refl _ _).alloc (Nat.le_refl _) _
        have bT : Boxed w4 wq.heap.size 9 (.string S) := by rw [hw4]; exact Boxed.new _ _ _
        have hqs := HB.out.2
        have hM : PM ws w w2.heap.size w3.heap.size wa ws.length w4 := HB.out.1.low (by omega) (by omega) hqs hB4
        rw [← hw4]
        clear HB hB4 hw4 hsn
        refine wp_loop (fun a W => ∃ (k : Nat) (Ds : List Nat), k ≤ 2 ∧ (∃ u, a = lf u (.string S) (.pointer (some ⟨w.heap.size, 0, none⟩)) (.int .i64 0) (.pointer (some ⟨w2.heap.size, 0, none⟩)) (.func (.func 37) #[] #[.pointer (some ⟨wq.heap.size, 0, none⟩)]) (.int .i64 (k : Int)) Ds) ∧
            w4.heap.size ≤ W.heap.size ∧ Below w4.heap.size w4 W ∧ Ds.Nodup ∧ (∀ D ∈ Ds, w4.heap.size ≤ D ∧ W.heap[D]? = some (.deferred (some [])))) (fun a _ => 2 - (intOf (a.tmps.getD 10 undef)).toNat) ?_ ?_
        · exact ⟨0, [], by omega, lf_of _ rfl, Nat.le_refl _, Below.refl _ _, List.nodup_nil, fun D h => by cases h⟩
        · rintro a W ⟨k, Ds, hk, ⟨u, rfl⟩, hWs, hWB, hnd, hDs⟩
          by_cases hk3 : k < 2
          · have ik : (k : Int) < 2 := by omega
            have HW : Hid (w4.heap.size ≤ W.heap.size ∧ Below w4.heap.size w4 W ∧ Ds.Nodup ∧ (∀ D ∈ Ds, w4.heap.size ≤ D ∧ W.heap[D]? = some (.deferred (some [])))) := ⟨hWs, hWB, hnd, hDs⟩
            have HM : Hid (PN ws w w2.heap.size w3.heap.size wa ws.length S wq.heap.size W 0 (W.alloc (.cells #[.int .i64 0] 3))) := by
              have hBW : Below W.heap.size W (W.alloc (.cells #[.int .i64 0] 3)) := (Below.refl _ _).alloc (Nat.le_refl _) _
              have hB4W : Below w4.heap.size w4 (W.alloc (.cells #[.int .i64 0] 3)) := hWB.trans (hBW.mono hWs)
              exact ⟨⟨hM.low (by omega) (by omega) (by omega) hB4W, (hB4W.block _ (by omega)).trans bT, hBW⟩, Boxed.new W _ _⟩
            clear hWB hnd hDs hM bT
            go_wp2
            obtain ⟨X0, hX0⟩ : ∃ X0, X0 = W.alloc (.cells #[.int .i64 0] 3) := ⟨_, rfl⟩
            have hX0s : X0.heap.size = W.heap.size + 1 := by rw [hX0]; simp
            rw [← hX0] at HM ⊢
            clear hX0
            have bTW := HM.out.pi.t
            refine (wpIn_wide (n := 9)).1 ?_
            refine range_stops (w := X0) (m := 5) rfl (by omega) (gf := 37) (lb := #[.pointer (some ⟨wq.heap.size, 0, none⟩)]) rfl trivial (enters_of Tryd.func37 (by kernel_rfl) rfl)
              (names_tells S (by omega) X0 wq.heap.size bTW) (fun k hk => hk.elim) (fun _ => rfl)
              (fun pre X => PN ws w w2.heap.size w3.heap.size wa ws.length S wq.heap.size W pre.length X) (fun _ _ _ => False)
              (fun _ X Y h hX hB => h.low (by omega) (by omega) (by omega) (by omega) (by omega) hB) (fun _ _ _ _ h _ _ => h) HM.out ?actAT ?assignAT ?bodyAT ?doneAT ?stopAT
            case assignAT =>
              intro l x X K hK
              gi_wp2
              exact hK
            case bodyAT =>
              rintro l pre ⟨xn, Y⟩ X hXs hN hsp
              rw [hns] at hsp
              obtain ⟨hxn, hxl⟩ := next_name hsp
              simp only at hxn hxl
              have hL0 : pre.length < ws.length := (List.getElem?_eq_some_iff.1 hxl).1
              obtain ⟨b, off, hwa, hbw, hc⟩ := hN.pi.mem.st (by omega)
              have q := hc _ _ hxl
              have cN := hN.n.cell
              have fN := hN.n.frozen
              have cV := hN.pi.mem.v.cell
              rw [hwa] at cV
              obtain ⟨L, hL⟩ : ∃ L, L = pre.length := ⟨_, rfl⟩
              have HL : Hid (L = pre.length) := hL
              rw [← hL] at hL0 q cN hxn
              have HN : Hid (PN ws w w2.heap.size w3.heap.size wa ws.length S wq.heap.size W pre.length X) := hN
              have hxn' := hxn.symm
              subst hxn'
              have i3 : ¬ (ws.length : Int) ≤ L := by omega
              have i4 : (L : Int) < ws.length := by omega
              have i5 : ¬ ws.length ≤ L := by omega
              have i6 : (L : Int) + 1 ≤ 9223372036854775807 := by omega
              have hyy : (Y.toList == Y.toList) = true := by simp
              have HE : Hid (Kept (W.heap.size + 1) (fun _ => False) X (X.setCell ⟨W.heap.size, 0, none⟩ (.int .i64 ((L : Int) + 1))) ∧ PN ws w w2.heap.size w3.heap.size wa ws.length S wq.heap.size W (pre ++ [(L, Y)]).length (X.setCell ⟨W.heap.size, 0, none⟩ (.int .i64 ((L : Int) + 1)))) := by
                refine ⟨⟨KeepsWalks.setCell _ _ _, fun j hj _ => Below.heap_setCell _ _ _ _ ?_⟩, ?_⟩
                · show j ≠ W.heap.size
                  rcases hj with hj | hj
                  · omega
                  · exact hj.elim
                · rw [List.length_append, List.length_singleton, ← HL.out]
                  rw [← HL.out] at HN
                  exact HN.out.set (by omega) (by omega) (by omega) (by omega) (L + 1) _ (by simp)
              clear hN hc hxl hsp hL HM bTW hwa
              gi_wp2
              exact HE.out
            case doneAT =>
              rintro D xs X hD hS hN hK
              rw [hns] at hS
              have hxs : xs.length = ws.length := by rw [hS, numB_len]
              rw [hxs] at hN
              have cN := hN.n.cell
              have cV := hN.pi.mem.v.cell
              have bT2 := hN.pi.t
              have hXs : W.heap.size + 1 ≤ X.heap.size := by have := hN.n.lt; omega
              have HF : Hid (LoopEnd w4 W X D Ds ∧ PN ws w w2.heap.size w3.heap.size wa ws.length S wq.heap.size W ws.length X) := ⟨⟨HW.out, hN.pi.bel, by omega, hK⟩, hN⟩
              clear hN hK hS HM bTW HW hxs
              gi_wp2
              go_wp2_with fail
              refine (wpIn_wide (n := 9)).1 ?_
              refine range_stops (w := X) (m := 5) rfl (by omega) (gf := 37) (lb := #[.pointer (some ⟨wq.heap.size, 0, none⟩)]) rfl trivial (enters_of Tryd.func37 (by kernel_rfl) rfl)
                (names_tells S (by omega) X wq.heap.size bT2) (fun k hk => hk.elim) (fun _ => rfl)
                (fun _ Y => Below X.heap.size X Y) (fun c _ Y => SX X c Y)
                (fun _ X' Y h hX hB => h.trans hB) (fun _ _ X' Y h _ hB => ⟨h.c, h.bel.trans hB⟩) (Below.refl _ _) ?actBT ?assignBT ?bodyBT ?doneBT ?stopBT
              case assignBT =>
                intro l x X K hK
                gi_wp2
                exact hK
              case bodyBT =>
                intro l pre x X2 hX2 hN2 hsp2
                have HN2 : Hid (Below X.heap.size X X2) := hN2
                clear hN2 hsp2
                gi_wp2
                exact ⟨⟨KeepsWalks.refl _, fun _ _ _ => rfl⟩, rfl, HN2.out⟩
              case doneBT =>
                intro D2 xs X2 hD2 hS2 hN2 hK2
                have HE : Hid (LoopEnd w4 X X2 D2 (D :: Ds)) := ⟨HF.out.1.next, hN2, hD2, hK2⟩
                clear hN2 hK2 hS2 HF bT2
                gi_wp2
                go_wp2_with fail
                refine ⟨⟨k + 1, D2 :: D :: Ds, by omega, lf_of _ (by simp only [lf]; rfl), HE.out.next⟩, ?_⟩
                simp [intOf]; omega
              case stopBT =>
                rintro D2 c pre X2 hD2 hS2 ⟨rfl, hN2⟩ hK2
                have HE : Hid (LoopEnd w4 X X2 D2 (D :: Ds)) := ⟨HF.out.1.next, hN2, hD2, hK2⟩
                clear hN2 hK2 hS2 HF bT2
                gi_wp2
                go_wp2_with fail
                refine ⟨⟨k + 1, D2 :: D :: Ds, by omega, lf_of _ (by simp only [lf]; rfl), HE.out.next⟩, ?_⟩
                simp [intOf]; omega
            case stopAT =>
              rintro D c pre X hD hS h hK
              exact h.elim
          · obtain rfl : k = 2 := by omega
            have HM : Hid (PM ws w w2.heap.size w3.heap.size wa ws.length W ∧ w4.heap.size ≤ W.heap.size) := ⟨hM.low (by omega) (by omega) (by omega) hWB, hWs⟩
            have HW : Hid (w4.heap.size ≤ W.heap.size ∧ Below w4.heap.size w4 W ∧ Ds.Nodup ∧ (∀ D ∈ Ds, w4.heap.size ≤ D ∧ W.heap[D]? = some (.deferred (some [])))) := ⟨hWs, hWB, hnd, hDs⟩
            have cV := HM.out.1.v.cell
            have HB4 : Hid (Below w.heap.size w w4) := hM.bel
            clear hWB hnd hDs hM bT
            go_wp2_with first
              | (go_at_call 18; refine (hdp _).mono ?_; clear hdp; rintro e y1 ⟨rfl, hy1⟩)
              | (go_at_call 8; refine (wakes_any _).mono ?_; rintro e y2 ⟨rfl, hy2⟩; have hy := hy1.trans (hy2.mono hy1.size); have hbr : Boxed y2 w.heap.size 4 (.bool false) := (hy.block _ (by have := HM.out.2; omega)).trans HM.out.1.r; have cR := hbr.cell; have fR := hbr.frozen)
            obtain ⟨hWs, hWB, hnd, hDs⟩ := HW.out
            have hyB := hWB.trans (hy.mono hWs)
            have hB4 := HB4.out
            refine bool_ret_ds (k := 2) (base := w4.heap.size) (p := w.heap.size) rfl rfl (by omega) Ds _ (hbr.set _) hnd (fun D hD => ⟨(hDs D hD).1, ?_⟩) (fun W' h => ⟨rfl, ?_⟩)
            · rw [Below.heap_setCell _ _ _ _ (by show D ≠ w.heap.size; have := (hDs D hD).1; omega)]
              exact (hy.block _ ((Array.getElem?_eq_some_iff.1 (hDs D hD).2).1)).trans (hDs D hD).2
            · exact ((hB4.trans (hyB.mono hB4.size)).setCell (p := ⟨w.heap.size, 0, none⟩) (Nat.le_refl _) _).trans (h.mono hB4.size)
  | false =>
    rw [hP] at hns hsp hdp
    simp only [Bool.false_eq_true, if_false] at hns hsp hdp
    have hE : (pathSpot (bs S)).1 ≠ 0 := by unfold isP at hP; simpa using hP
    obtain ⟨E, hEE⟩ : ∃ E, E = (pathSpot (bs S)).1 := ⟨_, rfl⟩
    rw [← hEE] at hrp hsp hE
    generalize (pathSpot (bs S)).2 = E2 at hrp
    have iE : ((E : Int) == 0) = false := beq_eq_false_iff_ne.2 (by omega)
    clear hpc hEE hpa
    obtain ⟨w0, hw0⟩ : ∃ w0, w0 = w.alloc (.cells #[.bool false] 4) := ⟨_, rfl⟩
    have hB0 : Below w.heap.size w w0 := by rw [hw0]; exact (Below.refl _ w).alloc (Nat.le_refl _) _
    have hz0 : w0.heap.size = w.heap.size + 1 := by rw [hw0]; simp
    have bR0 : Boxed w0 w.heap.size 4 (.bool false) := by rw [hw0]; exact Boxed.new _ _ _
    refine (callsIn_wide (n := 9)).1 ?_
    refine callsIn_of_wp_marks Tryd.func4 rfl trivial ?_ rfl
    simp only [Tryd.ntmps4, List.size_toArray, List.length_cons, List.length_nil, Nat.reduceAdd, Nat.reduceSub, Array.replicate_succ, Array.replicate_zero, List.push_toArray, List.append_toArray, List.nil_append, List.cons_append]
    refine wpIn_wide.2 ?_
    go_wp2_with first
      | (go_at_call 8; rw [← hw0]; refine (wakes_any _).mono ?_; rintro e w1 ⟨rfl, hB1⟩)
      | (go_at_call 9; refine (hca _).mono ?_; clear hca; rintro e w1' ⟨rfl, hh⟩; subst hh)
      | (go_at_call 13; refine (hrp _).mono ?_; clear hrp; rintro e w2 ⟨rfl, hB2⟩)
    have hz1 := hB1.size
    have hz2 := hB2.size
    have hB02 : Below w.heap.size w w2 := (hB0.trans (hB1.mono hB0.size)).trans (hB2.mono (by omega))
    have bR2 : Boxed w2 w.heap.size 4 (.bool false) := (hB2.block _ (by omega)).trans ((hB1.block _ (by omega)).trans bR0)
    have HPM : Hid (PM ([] : List ByteArray) w w2.heap.size (w2.heap.size + 1) none 0 (w2.alloc (.cells #[.slice none 0 0] 29)) ∧ w2.heap.size + 1 ≤ (w2.alloc (.cells #[.slice none 0 0] 29)).heap.size) :=
      ⟨⟨Boxed.alloc bR2 _, Boxed.new _ _ _, fun h0 => absurd h0 (by simp), hB02.alloc (by omega) _⟩, by simp⟩
    clear bR2 hB02 hB1 hB2 hB0 bR0 hw0
    go_loopw [5] (fun i wr => ∃ k : Nat, k ≤ 2 ∧ i = .int .i64 (k : Int) ∧ Hid (PM ([] : List ByteArray) w w2.heap.size (w2.heap.size + 1) none 0 wr ∧ (w2.heap.size + 1) ≤ wr.heap.size)) (fun i _ => 2 - (intOf i).toNat)
    case atStart => exact ⟨0, by omega, rfl, HPM.out⟩
    case round =>
      clear HPM
      obtain ⟨k, hk, rfl, H⟩ := hrel
      obtain ⟨wq, hwq⟩ : ∃ wq, wq = wr := ⟨_, rfl⟩
      subst hwq
      by_cases hk2 : k < 2
      · have ik : (k : Int) < 2 := by omega
        have HT : Hid (∀ X a c, Strs X a ([] : List ByteArray).length ([] : List ByteArray) → PM ([] : List ByteArray) w w2.heap.size (w2.heap.size + 1) none 0 X → Calls Tryd.prog 16 #[.slice a ([] : List ByteArray).length c, .slice none ([] : List ByteArray).length 0] X fun e w' => e = .returned (.bool true) ∧ Below X.heap.size X w') := fun X a c h1 h2 => texts_yes X a none ([] : List ByteArray).length c 0 ([] : List ByteArray) h1 h2.strs (by first | omega | simp)
        go_wp2_with first
          | (go_at_call 15; refine (hsp _).mono ?_; rintro e x1 ⟨⟨v, rfl, ho⟩, hB1⟩; obtain ⟨la, lc, rfl, hlc, hst⟩ := row_strs ho; have H1 : Hid (PM ([] : List ByteArray) w w2.heap.size (w2.heap.size + 1) none 0 x1 ∧ x1.ownsRow wq.heap.size 9 1 (.slice la ([] : List ByteArray).length lc) ([] : List ByteArray).length (([] : List ByteArray).map Value.string)) := ⟨H.out.1.low (by have := H.out.2; omega) (by have := H.out.2; omega) H.out.2 hB1, ho⟩; have cV := H1.out.1.v.cell; have hx1 := hB1.size; clear ho)
          | (go_at_call 16; refine (HT.out _ _ _ hst H1.out.1).mono ?_; rintro e x2 ⟨rfl, hB2⟩; have H2 : Hid (PM ([] : List ByteArray) w w2.heap.size (w2.heap.size + 1) none 0 x2 ∧ OwnR wq.heap.size (.slice la ([] : List ByteArray).length lc) ([] : List ByteArray).length x2 ∧ wq.heap.size ≤ x2.heap.size) := ⟨H1.out.1.low (by have := H.out.2; omega) (by have := H.out.2; omega) (by have := H.out.2; omega) hB2, ⟨_, H1.out.2.kept (row := none) ⟨hB2.os, hB2.tape, hB2.output, hB2.size, fun k hk _ => hB2.block k hk⟩ (by cases (Value.slice la ([] : List ByteArray).length lc).ownBlock <;> simp)⟩, by have := hB2.size; omega⟩; clear hst cV H1 hB2)
        go_loopw [46] (fun j wr => ∃ m : Nat, m ≤ ([] : List ByteArray).length ∧ j = .int .i64 (m : Int) ∧ Hid (PM ([] : List ByteArray) w w2.heap.size (w2.heap.size + 1) none 0 wr ∧ OwnR wq.heap.size (.slice la ([] : List ByteArray).length lc) ([] : List ByteArray).length wr ∧ wq.heap.size ≤ wr.heap.size)) (fun j _ => ([] : List ByteArray).length - (intOf j).toNat)
        case atStart => exact ⟨0, Nat.zero_le _, rfl, H2.out⟩
        case round =>
          clear H2
          obtain ⟨m, hm, rfl, H3⟩ := hrel
          by_cases hml : m < ([] : List ByteArray).length
          · exact absurd hml (by simp)
          · have hme : m = ([] : List ByteArray).length := by omega
            subst hme
            have iml : ¬ ((([] : List ByteArray).length : Nat) : Int) < ((([] : List ByteArray).length : Nat) : Int) := by omega
            obtain ⟨xs, ho⟩ := H3.out.2.1
            have H4 : Hid (PM ([] : List ByteArray) w w2.heap.size (w2.heap.size + 1) none 0 wr ∧ wq.heap.size ≤ wr.heap.size) := ⟨H3.out.1, H3.out.2.2⟩
            have hsz := H3.out.2.2
            have hoB : wq.heap.size ≤ wr.heap.size + 1 := by omega
            clear H3
            go_wp2_with (at_builtin; refine wpList_append_own _ rfl _ _ 29 rfl wq.heap.size 9 i0 (.string ⟨#[]⟩) 1 16 Tryd.underlying29 hi0 hzz0 hzz1 hzz2 rfl (by decide) _ ([] : List ByteArray).length _ rfl (ho.alloc _) ⟨_, 0, none⟩ 2 2 [.string ⟨#[33]⟩, .string ⟨#[33]⟩] rfl rfl (cells_two _ _ _ _) (by simp [Value.oneCell']) (by unfold maxLen; first | omega | simp) (by first | omega | simp) (by simp; omega) ?_; intro v' x5 hown5 hgr5 _; have HB5 : Below wq.heap.size wr x5 := ((Below.refl _ wr).alloc hsz _).trans (below_gr (ho.alloc _) (by simp; omega) hgr5); have H5 : Hid (PM ([] : List ByteArray) w w2.heap.size (w2.heap.size + 1) none 0 x5 ∧ (w2.heap.size + 1) ≤ x5.heap.size) := ⟨H4.out.1.low (by have := H.out.2; omega) (by have := H.out.2; omega) (by have := H.out.2; omega) HB5, by have := H.out.2; have := HB5.size; omega⟩; obtain ⟨ad5, cp5, hv5, _⟩ := srow_shape hown5; subst hv5; clear hown5 hgr5 HB5 ho)
            exact ⟨⟨k + 1, by omega, by simp, H5.out⟩, by simp [intOf]; omega⟩
      · obtain rfl : k = 2 := by omega
        have HB : Hid (PM ([] : List ByteArray) w w2.heap.size (w2.heap.size + 1) none 0 wq ∧ (w2.heap.size + 1) ≤ wq.heap.size) := H
        clear H
        have hsn := run_seq_nilN
        go_wp2_with (go_at_call 17; refine (Names_any S _).mono ?_; rintro e y1 ⟨rfl, hy⟩; subst hy)
        obtain ⟨w4, hw4⟩ : ∃ w4, w4 = wq.alloc (.cells #[.string S] 9) := ⟨_, rfl⟩
        have hz4 : w4.heap.size = wq.heap.size + 1 := by rw [hw4]; simp
        have hB4 : Below wq.heap.size wq w4 := by rw [hw4]; exact (Below.refl _ _).alloc (Nat.le_refl _) _
        have bT : Boxed w4 wq.heap.size 9 (.string S) := by rw [hw4]; exact Boxed.new _ _ _
        have hqs := HB.out.2
        have hM : PM ([] : List ByteArray) w w2.heap.size (w2.heap.size + 1) none 0 w4 := HB.out.1.low (by omega) (by omega) hqs hB4
        rw [← hw4]
        clear HB hB4 hw4 hsn
        refine wp_loop (fun a W => ∃ (k : Nat) (Ds : List Nat), k ≤ 2 ∧ (∃ u, a = lf u (.string S) (.pointer (some ⟨w.heap.size, 0, none⟩)) (.int .i64 (E : Int)) (.pointer (some ⟨w2.heap.size, 0, none⟩)) (.func (.func 37) #[] #[.pointer (some ⟨wq.heap.size, 0, none⟩)]) (.int .i64 (k : Int)) Ds) ∧
            w4.heap.size ≤ W.heap.size ∧ Below w4.heap.size w4 W ∧ Ds.Nodup ∧ (∀ D ∈ Ds, w4.heap.size ≤ D ∧ W.heap[D]? = some (.deferred (some [])))) (fun a _ => 2 - (intOf (a.tmps.getD 10 undef)).toNat) ?_ ?_
        · exact ⟨0, [], by omega, lf_of _ rfl, Nat.le_refl _, Below.refl _ _, List.nodup_nil, fun D h => by cases h⟩
        · rintro a W ⟨k, Ds, hk, ⟨u, rfl⟩, hWs, hWB, hnd, hDs⟩
          by_cases hk3 : k < 2
          · have ik : (k : Int) < 2 := by omega
            have HW : Hid (w4.heap.size ≤ W.heap.size ∧ Below w4.heap.size w4 W ∧ Ds.Nodup ∧ (∀ D ∈ Ds, w4.heap.size ≤ D ∧ W.heap[D]? = some (.deferred (some [])))) := ⟨hWs, hWB, hnd, hDs⟩
            have HM : Hid (PN ([] : List ByteArray) w w2.heap.size (w2.heap.size + 1) none 0 S wq.heap.size W 0 (W.alloc (.cells #[.int .i64 0] 3))) := by
              have hBW : Below W.heap.size W (W.alloc (.cells #[.int .i64 0] 3)) := (Below.refl _ _).alloc (Nat.le_refl _) _
              have hB4W : Below w4.heap.size w4 (W.alloc (.cells #[.int .i64 0] 3)) := hWB.trans (hBW.mono hWs)
              exact ⟨⟨hM.low (by omega) (by omega) (by omega) hB4W, (hB4W.block _ (by omega)).trans bT, hBW⟩, Boxed.new W _ _⟩
            clear hWB hnd hDs hM bT
            go_wp2
            obtain ⟨X0, hX0⟩ : ∃ X0, X0 = W.alloc (.cells #[.int .i64 0] 3) := ⟨_, rfl⟩
            have hX0s : X0.heap.size = W.heap.size + 1 := by rw [hX0]; simp
            rw [← hX0] at HM ⊢
            clear hX0
            have bTW := HM.out.pi.t
            refine (wpIn_wide (n := 9)).1 ?_
            refine range_stops (w := X0) (m := 5) rfl (by omega) (gf := 37) (lb := #[.pointer (some ⟨wq.heap.size, 0, none⟩)]) rfl trivial (enters_of Tryd.func37 (by kernel_rfl) rfl)
              (names_tells S (by omega) X0 wq.heap.size bTW) (fun k hk => hk.elim) (fun _ => rfl)
              (fun pre X => PN ([] : List ByteArray) w w2.heap.size (w2.heap.size + 1) none 0 S wq.heap.size W pre.length X) (fun _ _ _ => False)
              (fun _ X Y h hX hB => h.low (by omega) (by omega) (by omega) (by omega) (by omega) hB) (fun _ _ _ _ h _ _ => h) HM.out ?actAF ?assignAF ?bodyAF ?doneAF ?stopAF
            case assignAF =>
              intro l x X K hK
              gi_wp2
              exact hK
            case bodyAF =>
              rintro l pre ⟨xn, Y⟩ X hXs hN hsp
              rw [hns] at hsp
              obtain ⟨hxn, hxl⟩ := next_name hsp
              simp only at hxn hxl
              simp at hxl
            case doneAF =>
              rintro D xs X hD hS hN hK
              rw [hns] at hS
              have hxs : xs.length = ([] : List ByteArray).length := by rw [hS, numB_len]
              rw [hxs] at hN
              have cN := hN.n.cell
              have cV := hN.pi.mem.v.cell
              have bT2 := hN.pi.t
              have hXs : W.heap.size + 1 ≤ X.heap.size := by have := hN.n.lt; omega
              have HF : Hid (LoopEnd w4 W X D Ds ∧ PN ([] : List ByteArray) w w2.heap.size (w2.heap.size + 1) none 0 S wq.heap.size W ([] : List ByteArray).length X) := ⟨⟨HW.out, hN.pi.bel, by omega, hK⟩, hN⟩
              clear hN hK hS HM bTW HW hxs
              gi_wp2
              go_wp2_with fail
              refine (wpIn_wide (n := 9)).1 ?_
              refine range_stops (w := X) (m := 5) rfl (by omega) (gf := 37) (lb := #[.pointer (some ⟨wq.heap.size, 0, none⟩)]) rfl trivial (enters_of Tryd.func37 (by kernel_rfl) rfl)
                (names_tells S (by omega) X wq.heap.size bT2) (fun k hk => hk.elim) (fun _ => rfl)
                (fun _ Y => Below X.heap.size X Y) (fun c _ Y => SX X c Y)
                (fun _ X' Y h hX hB => h.trans hB) (fun _ _ X' Y h _ hB => ⟨h.c, h.bel.trans hB⟩) (Below.refl _ _) ?actBF ?assignBF ?bodyBF ?doneBF ?stopBF
              case assignBF =>
                intro l x X K hK
                gi_wp2
                exact hK
              case bodyBF =>
                intro l pre x X2 hX2 hN2 hsp2
                have HN2 : Hid (Below X.heap.size X X2) := hN2
                clear hN2 hsp2
                gi_wp2
                exact ⟨⟨KeepsWalks.refl _, fun _ _ _ => rfl⟩, rfl, HN2.out⟩
              case doneBF =>
                intro D2 xs X2 hD2 hS2 hN2 hK2
                have HE : Hid (LoopEnd w4 X X2 D2 (D :: Ds)) := ⟨HF.out.1.next, hN2, hD2, hK2⟩
                clear hN2 hK2 hS2 HF bT2
                gi_wp2
                go_wp2_with fail
                refine ⟨⟨k + 1, D2 :: D :: Ds, by omega, lf_of _ (by simp only [lf]; rfl), HE.out.next⟩, ?_⟩
                simp [intOf]; omega
              case stopBF =>
                rintro D2 c pre X2 hD2 hS2 ⟨rfl, hN2⟩ hK2
                have HE : Hid (LoopEnd w4 X X2 D2 (D :: Ds)) := ⟨HF.out.1.next, hN2, hD2, hK2⟩
                clear hN2 hK2 hS2 HF bT2
                gi_wp2
                go_wp2_with fail
                refine ⟨⟨k + 1, D2 :: D :: Ds, by omega, lf_of _ (by simp only [lf]; rfl), HE.out.next⟩, ?_⟩
                simp [intOf]; omega
            case stopAF =>
              rintro D c pre X hD hS h hK
              exact h.elim
          · obtain rfl : k = 2 := by omega
            have HM : Hid (PM ([] : List ByteArray) w w2.heap.size (w2.heap.size + 1) none 0 W ∧ w4.heap.size ≤ W.heap.size) := ⟨hM.low (by omega) (by omega) (by omega) hWB, hWs⟩
            have HW : Hid (w4.heap.size ≤ W.heap.size ∧ Below w4.heap.size w4 W ∧ Ds.Nodup ∧ (∀ D ∈ Ds, w4.heap.size ≤ D ∧ W.heap[D]? = some (.deferred (some [])))) := ⟨hWs, hWB, hnd, hDs⟩
            have cV := HM.out.1.v.cell
            have HB4 : Hid (Below w.heap.size w w4) := hM.bel
            clear hWB hnd hDs hM bT
            go_wp2_with first
              | (go_at_call 18; refine (hdp _).mono ?_; clear hdp; rintro e y1 ⟨rfl, hy1⟩)
              | (go_at_call 8; refine (wakes_any _).mono ?_; rintro e y2 ⟨rfl, hy2⟩; have hy := hy1.trans (hy2.mono hy1.size); have hbr : Boxed y2 w.heap.size 4 (.bool false) := (hy.block _ (by have := HM.out.2; omega)).trans HM.out.1.r; have cR := hbr.cell; have fR := hbr.frozen)
            obtain ⟨hWs, hWB, hnd, hDs⟩ := HW.out
            have hyB := hWB.trans (hy.mono hWs)
            have hB4 := HB4.out
            refine bool_ret_ds (k := 2) (base := w4.heap.size) (p := w.heap.size) rfl rfl (by omega) Ds _ (hbr.set _) hnd (fun D hD => ⟨(hDs D hD).1, ?_⟩) (fun W' h => ⟨rfl, ?_⟩)
            · rw [Below.heap_setCell _ _ _ _ (by show D ≠ w.heap.size; have := (hDs D hD).1; omega)]
              exact (hy.block _ ((Array.getElem?_eq_some_iff.1 (hDs D hD).2).1)).trans (hDs D hD).2
            · exact ((hB4.trans (hyB.mono hB4.size)).setCell (p := ⟨w.heap.size, 0, none⟩) (Nat.le_refl _) _).trans (h.mono hB4.size)
end Go.Proofs.YtadmpobnpnbgoaaDoor
