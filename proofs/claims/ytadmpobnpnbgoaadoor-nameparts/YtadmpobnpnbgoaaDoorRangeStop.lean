/- A range over a function that itself ranges over a function: the iterator may lay and write blocks of its own, the body speaks only of what lay ahead of the loop. Of no program; no law of the library says it. -/
import Derived.RangeFuncNested
import Derived.RangeFuncBound
import Derived.RangeFuncCalls
import Derived.RangeFuncLeaves
import Derived.RangeFuncWrites
import Derived.Test.YtadmpobnpnbgoaaDoorNPieces
namespace Go.Proofs.YtadmpobnpnbgoaaDoor
open Go.RowKit Go.Shelf

/-- the blocks from B on are as they were, and so is every walk -/
structure Kept (B : Nat) (Kb : Nat → Prop) (W W' : World) : Prop where
  walks : KeepsWalks W W'
  same : ∀ k, (B ≤ k ∨ Kb k) → k < W.heap.size → W'.heap[k]? = W.heap[k]?
theorem Kept.trans {B : Nat} {Kb : Nat → Prop} {X Y Z : World} (h : Kept B Kb X Y) (k : Kept B Kb Y Z) : Kept B Kb X Z :=
  ⟨h.walks.trans k.walks, fun i hi hX => (k.same i hi (Nat.lt_of_lt_of_le hX h.walks.size)).trans (h.same i hi hX)⟩
theorem Kept.put {B : Nat} {Kb : Nat → Prop} {W : World} {l : Nat} {o : Obj} (o' : Obj) (hl : W.heap[l]? = some o) (ho : o.isWalk = false) (h : ¬ (B ≤ l ∨ Kb l)) : Kept B Kb W (W.putObj l o') :=
  ⟨KeepsWalks.putObj o' hl ho, fun _ hk _ => World.putObj_heap_other (fun e => h (e ▸ hk))⟩
theorem Kept.mono {B B' : Nat} {Kb : Nat → Prop} {W W' : World} (h : Kept B Kb W W') (hB : B ≤ B') : Kept B' Kb W W' := ⟨h.walks, fun k hk => h.same k (hk.imp (fun h => by omega) id)⟩
/-- speaks only of what lies below B -/
def Lower {β : Type} (B : Nat) (I : β → World → Prop) : Prop := ∀ s X Y, I s X → B ≤ X.heap.size → Below B X Y → I s Y

def TellsS {α : Type} (F : Fence) (n m : Nat) (P : Program) (gf : Nat) (lb : Array Value) (encs : α → Array Value) (Kb : Nat → Prop) (S Sp : List α → Prop) (w : World) : Prop :=
  ∀ (l : Nat) (J Jx : List α → World → Prop) (W : World), Below w.heap.size w W → Lower W.heap.size J → Lower W.heap.size Jx →
    (∀ pre x W1, J pre W1 → W.heap.size ≤ W1.heap.size → Sp (pre ++ [x]) → YieldAt F m P l (encs x) W1 fun e W' =>
      (e = .returned (.bool true) ∧ J (pre ++ [x]) W' ∧ Kept W.heap.size Kb W1 W') ∨ (e = .returned (.bool false) ∧ Jx (pre ++ [x]) W' ∧ Kept W.heap.size Kb W1 W')) →
    J [] W → CallsIn F n P gf (#[.func (.yield l) #[] #[]] ++ lb) W fun e W' => (∃ v, e = .returned v) ∧ W.heap.size ≤ W'.heap.size ∧ ((∃ xs, S xs ∧ J xs W') ∨ (∃ pre, Sp pre ∧ Jx pre W'))

/-- how a round may be left -/
def stopPost {α : Type} (B : Nat) (Kb : Nat → Prop) (I : List α → World → Prop) (Ix : Code → List α → World → Prop) (xs : List α) (W : World) : Exit → Act → World → Prop
  | .normal, _, W' => Kept B Kb W W' ∧ I xs W'
  | .ret, _, W' => Kept B Kb W W' ∧ Ix .ret xs W'
  | .exit id, _, W' => Kept B Kb W W' ∧ Ix (.exit id) xs W'
  | _, _, _ => False

theorem putS (W : World) (l : Nat) (o : Obj) : (W.putObj l o).heap.size = W.heap.size := by simp
theorem below_put {W : World} {B l : Nat} (o : Obj) (h : B ≤ l) : Below B W (W.putObj l o) :=
  ⟨rfl, rfl, rfl, by simp, fun k hk => World.putObj_heap_other (by omega)⟩

theorem range_stops {α : Type} {F : Fence} {n m : Nat} {P : Program} {g : Operand} {ps : Array Tmp} {assign body : Code} {Q : Exit → Act → World → Prop} {a : Act} {w : World}
    (hro : F.round = none) (h1 : 1 ≤ n) {gf : Nat} {lb : Array Value} (hg : a.eval g = .func (.func gf) #[] lb) (hFg : F.fn gf) (eg : ∀ args w, (callFunc gf args).run P w = .ok (.enter gf args) w)
    {encs : α → Array Value} {Kb : Nat → Prop} {S Sp : List α → Prop} (hit : TellsS F (n - 1) m P gf lb encs Kb S Sp w) (hKb : ∀ k, Kb k → k < w.heap.size) (hps : ∀ x, (encs x).size = ps.size)
    (I : List α → World → Prop) (Ix : Code → List α → World → Prop) (hI : Lower w.heap.size I) (hIx : ∀ c, Lower w.heap.size (Ix c)) (h0 : I [] w) (a₁ : α → Act)
    (hassign : ∀ (l : Nat) (x : α) (W : World) (K : Act → World → Prop), K (a₁ x) W →
      assign.wpIn (F.inRound l) m P (Exit.then K (fun _ _ _ => False)) { tmps := (ps.zip (encs x)).foldl (fun t (p, v) => t.setIfInBounds p v) a.tmps, defers := [] } W)
    (hbody : ∀ (l : Nat) (pre : List α) (x : α) (W : World), w.heap.size ≤ W.heap.size → I pre W → Sp (pre ++ [x]) → body.wpIn (F.inRound l) m P (stopPost w.heap.size Kb I Ix (pre ++ [x]) W) (a₁ x) W)
    (hdone : ∀ (D : Nat) (xs : List α) (W : World), w.heap.size ≤ D → S xs → I xs W → W.heap[D]? = some (.deferred (some [])) → Q .normal { a with defers := { target := .collected D, args := #[] } :: a.defers } W)
    (hstop : ∀ (D : Nat) (c : Code) (pre : List α) (W : World), w.heap.size ≤ D → Sp pre → Ix c pre W → W.heap[D]? = some (.deferred (some [])) → c.wpIn F n P Q { a with defers := { target := .collected D, args := #[] } :: a.defers } W) :
    (Code.rangeFunc g ps assign body).wpIn F n P Q a w := by
  refine wpIn_rangeFunc fun fn hfn => ?_
  rw [hro]
  let R : LoopState → Option Code → Loop := fun st pe => { state := st, pending := pe, fn := fn, tmps := a.tmps, params := ps, assign := assign, body := body, defers := w.heap.size }
  let D := w.heap.size
  let L := w.heap.size + 1
  let W0 := (w.alloc (.deferred (some []))).alloc (.loop (R .ready none))
  have hD0 : W0.heap[D]? = some (.deferred (some [])) := (Below.heap_alloc _ _ _ (by simp [D])).trans (World.alloc_heap_new w _)
  have hL0 : W0.heap[L]? = some (.loop (R .ready none)) := by
    have := World.alloc_heap_new (w.alloc (.deferred (some []))) (.loop (R .ready none))
    rwa [World.size_alloc] at this
  have hB0 : Below w.heap.size w W0 := ((Below.refl _ w).alloc (Nat.le_refl _) _).alloc (by simp) _
  have hs0 : W0.heap.size = w.heap.size + 2 := by simp [W0]
  have hI0 : I [] W0 := hI _ _ _ h0 (Nat.le_refl _) hB0
  refine ⟨L, [{ target := .collected D, args := #[] }], W0, { target := .fn (.func gf) lb, args := #[.func (.yield L) #[] #[]] }, W0, gf, #[.func (.yield L) #[] #[]] ++ lb, W0, run_enterLoop_outer _ _ _ _ _, ?_, ?_, ?_, fun _ => h1, ?_⟩
  · simp only [resolve, hg]
    simp [go_sem]
  · intro f' hf'
    simp [Target.leads] at hf'
    exact hf' ▸ hFg
  · simp [invoke, go_sem, eg]
  · let J : List α → World → Prop := fun pre W => I pre W ∧ W.heap[L]? = some (.loop (R .ready none)) ∧ W.heap[D]? = some (.deferred (some []))
    let Jx : List α → World → Prop := fun pre W => ∃ c, Ix c pre W ∧ W.heap[L]? = some (.loop (R .done (some c))) ∧ W.heap[D]? = some (.deferred (some []))
    have lt_of : ∀ {W : World} {k : Nat} {o : Obj}, W.heap[k]? = some o → k < W.heap.size := fun h => (Array.getElem?_eq_some_iff.1 h).1
    have nL : ¬ (W0.heap.size ≤ L ∨ Kb L) := by rintro (h | h); omega; have := hKb _ h; omega
    have hJl : Lower W0.heap.size J := fun s X Y hs hX hB =>
      ⟨hI s X Y hs.1 (by omega) (hB.mono (by omega)), (hB.block L (by omega)).trans hs.2.1, (hB.block D (by omega)).trans hs.2.2⟩
    have hJxl : Lower W0.heap.size Jx := fun s X Y ⟨c, hs⟩ hX hB =>
      ⟨c, hIx c s X Y hs.1 (by omega) (hB.mono (by omega)), (hB.block L (by omega)).trans hs.2.1, (hB.block D (by omega)).trans hs.2.2⟩
    have round : ∀ pre x W1, J pre W1 → W0.heap.size ≤ W1.heap.size → Sp (pre ++ [x]) → YieldAt F m P L (encs x) W1 fun e W' =>
        (e = .returned (.bool true) ∧ J (pre ++ [x]) W' ∧ Kept W0.heap.size Kb W1 W') ∨ (e = .returned (.bool false) ∧ Jx (pre ++ [x]) W' ∧ Kept W0.heap.size Kb W1 W') := by
      intro pre x W1 hJ hW1 hsp
      refine ⟨fn, _, assign, body, run_yield hJ.2.1 (hps x), roundIn_of_wpIn hfn (hassign L x W1 _ ⟨_, run_beginRound hJ.2.1 rfl, ?_⟩)⟩
      have hLlt := lt_of hJ.2.1
      refine wpIn_mono (hbody L pre x _ (by rw [putS]; omega) (hI _ _ _ hJ.1 (by omega) (below_put _ (by omega))) hsp) ?_
      have k0 : Kept W0.heap.size Kb W1 (W1.putObj L (.loop { R .ready none with state := .busy })) := Kept.put _ hJ.2.1 rfl nL
      have fin : ∀ (jump : Option Code) (W3 : World), Kept w.heap.size Kb (W1.putObj L (.loop { R .ready none with state := .busy })) W3 →
          (Instr.endRound L jump).run P W3 = .ok (.bool jump.isNone) (W3.putObj L (.loop (R (if jump.isNone then .ready else .done) jump))) ∧
          (W3.putObj L (.loop (R (if jump.isNone then .ready else .done) jump))).heap[L]? = some (.loop (R (if jump.isNone then .ready else .done) jump)) ∧
          (W3.putObj L (.loop (R (if jump.isNone then .ready else .done) jump))).heap[D]? = some (.deferred (some [])) ∧
          Kept W0.heap.size Kb W1 (W3.putObj L (.loop (R (if jump.isNone then .ready else .done) jump))) ∧ w.heap.size ≤ W3.heap.size := fun jump W3 hk3 => by
        have hL3 : W3.heap[L]? = some (.loop { R .ready none with state := .busy }) := (hk3.same L (.inl (by omega)) (by rw [putS]; exact hLlt)).trans (World.putObj_heap_same hLlt)
        have hD3 : W3.heap[D]? = some (.deferred (some [])) := (hk3.same D (.inl (Nat.le_refl _)) (by rw [putS]; exact lt_of hJ.2.2)).trans ((World.putObj_heap_other (by omega)).trans hJ.2.2)
        exact ⟨run_endRound jump hL3, World.putObj_heap_same (lt_of hL3), (World.putObj_heap_other (by omega)).trans hD3, (k0.trans (hk3.mono (by omega))).trans (Kept.put _ hL3 rfl nL), by have := lt_of hL3; omega⟩
      rintro e a3 W3 hp
      cases e with
      | normal =>
        obtain ⟨hk3, hi3⟩ := hp
        obtain ⟨hr, hl4, hd4, hk4, hs4⟩ := fin none W3 hk3
        exact ⟨_, _, hr, .inl ⟨rfl, ⟨hI _ _ _ hi3 hs4 (below_put _ (by omega)), hl4, hd4⟩, hk4⟩⟩
      | ret =>
        obtain ⟨hk3, hi3⟩ := hp
        obtain ⟨hr, hl4, hd4, hk4, hs4⟩ := fin (some .ret) W3 hk3
        exact ⟨_, _, hr, .inr ⟨rfl, ⟨.ret, hIx _ _ _ _ hi3 hs4 (below_put _ (by omega)), hl4, hd4⟩, hk4⟩⟩
      | exit id =>
        obtain ⟨hk3, hi3⟩ := hp
        obtain ⟨hr, hl4, hd4, hk4, hs4⟩ := fin (some (.exit id)) W3 hk3
        exact ⟨_, _, hr, .inr ⟨rfl, ⟨.exit id, hIx _ _ _ _ hi3 hs4 (below_put _ (by omega)), hl4, hd4⟩, hk4⟩⟩
      | goto t => exact hp.elim
      | panic ch => exact hp.elim
      | outgrown => exact hp.elim
    refine (hit L J Jx W0 hB0 hJl hJxl round ⟨hI0, hL0, hD0⟩).mono ?_
    rintro e W2 ⟨⟨v, rfl⟩, hW2, (⟨xs, hS, hi, hL, hD⟩ | ⟨pre, hSp, c, hi, hL, hD⟩)⟩
    · exact ⟨none, _, run_endLoop hL (by simp [R]), hdone D xs _ (Nat.le_refl _) hS (hI _ _ _ hi (by omega) (below_put _ (by omega))) ((World.putObj_heap_other (by omega)).trans hD)⟩
    · exact ⟨some c, _, run_endLoop hL (by simp [R]), hstop D c pre _ (Nat.le_refl _) hSp (hIx _ _ _ _ hi (by omega) (below_put _ (by omega))) ((World.putObj_heap_other (by omega)).trans hD)⟩

end Go.Proofs.YtadmpobnpnbgoaaDoor
