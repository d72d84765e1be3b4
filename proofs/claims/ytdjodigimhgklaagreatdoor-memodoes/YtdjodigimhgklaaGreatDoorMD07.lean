import Derived.RangeFuncNested
import Derived.RangeFuncBound
import Derived.RangeFuncCalls
import Derived.RangeFuncLeaves
import Derived.Shelf.Abstract
import Derived.Shelf.RegionOpen
import Derived.WalkKit
import Derived.OwnWalkIn
import Derived.TacticsInMore
import Derived.LoopNIn
import Derived.LoopIn
import Derived.Test.YtdjodigimhgklaaGreatDoorProg
import Derived.Test.YtdjodigimhgklaaGreatDoorMD06
/- A range over a function whose body never leaves it, where the body is told what the memory holds of the values that it is handed (Px). Of no program; no law of the library says it. -/
namespace Go.Proofs.YtdjodigimhgklaaGreatDoor
open Go.RowKit Go.Shelf

/-- these blocks are as they were -/
def Keep (Kb : Nat → Prop) (W W' : World) : Prop := W.heap.size ≤ W'.heap.size ∧ ∀ k, Kb k → W'.heap[k]? = W.heap[k]?
theorem Keep.refl (Kb : Nat → Prop) (W : World) : Keep Kb W W := ⟨Nat.le_refl _, fun _ _ => rfl⟩
theorem Keep.trans {Kb : Nat → Prop} {X Y Z : World} (h : Keep Kb X Y) (k : Keep Kb Y Z) : Keep Kb X Z := ⟨Nat.le_trans h.1 k.1, fun i hi => (k.2 i hi).trans (h.2 i hi)⟩
theorem Keep.put {Kb : Nat → Prop} {W : World} {l : Nat} (o : Obj) (h : ¬ Kb l) : Keep Kb W (W.putObj l o) := ⟨by simp, fun k hk => World.putObj_heap_other (fun e => h (e ▸ hk))⟩

/-- the iterator's word: whatever the loop's body, if each of its rounds goes on -/
def Tells {α : Type} (F : Fence) (n : Nat) (P : Program) (gf : Nat) (lb : Array Value) (encs : α → Array Value) (Px : List α → α → World → Prop) (Kb : Nat → Prop) (S : List α → Prop) (w : World) : Prop :=
  ∀ (l : Nat) (J : List α → World → Prop) (W : World), Below w.heap.size w W → (∀ s X Y, J s X → X.grownBy Y none → J s Y) →
    (∀ pre x W1, J pre W1 → Px pre x W1 → YieldAt F (n - 1) P l (encs x) W1 fun e W' => e = .returned (.bool true) ∧ J (pre ++ [x]) W' ∧ Keep Kb W1 W') →
    J [] W → CallsIn F n P gf (#[.func (.yield l) #[] #[]] ++ lb) W fun e W' => (∃ v, e = .returned v) ∧ ∃ xs, S xs ∧ J xs W'

theorem range_told {α : Type} {F : Fence} {n : Nat} {P : Program} {g : Operand} {ps : Array Tmp} {assign body : Code} {Q : Exit → Act → World → Prop} {a : Act} {w : World}
    (hro : F.round = none) (h1 : 1 ≤ n) {gf : Nat} {lb : Array Value} (hg : a.eval g = .func (.func gf) #[] lb) (hFg : F.fn gf) (eg : ∀ args w, (callFunc gf args).run P w = .ok (.enter gf args) w)
    {encs : α → Array Value} {Px : List α → α → World → Prop} {Kb : Nat → Prop} {S : List α → Prop} (hit : Tells F (n - 1) P gf lb encs Px Kb S w) (hps : ∀ x, (encs x).size = ps.size) (hKb : ∀ k, Kb k → k < w.heap.size)
    (I : List α → World → Prop) (hI : OwnFrom w.heap.size I) (hPx : ∀ pre x, OwnFrom w.heap.size (fun (_ : Unit) W => Px pre x W)) (h0 : I [] w) (a₁ : α → Act)
    (hassign : ∀ (l : Nat) (x : α) (W : World) (K : Act → World → Prop), K (a₁ x) W →
      assign.wpIn (F.inRound l) (n - 1 - 1) P (Exit.then K (fun _ _ _ => False)) { tmps := (ps.zip (encs x)).foldl (fun t (p, v) => t.setIfInBounds p v) a.tmps, defers := [] } W)
    (hbody : ∀ (l : Nat) (pre : List α) (x : α) (W : World), w.heap.size ≤ l → I pre W → Px pre x W → body.wpIn (F.inRound l) (n - 1 - 1) P (fun e _ W' => e = .normal ∧ KeepsFrom w.heap.size W W' ∧ Keep Kb W W' ∧ I (pre ++ [x]) W') (a₁ x) W)
    (hdone : ∀ (D : Nat) (xs : List α) (W : World), w.heap.size ≤ D → S xs → I xs W → W.heap[D]? = some (.deferred (some [])) → Q .normal { a with defers := { target := .collected D, args := #[] } :: a.defers } W) :
    (Code.rangeFunc g ps assign body).wpIn F n P Q a w := by
  refine wpIn_rangeFunc fun fn hfn => ?_
  rw [hro]
  -- the record of the loop, in each of its states; its place, and that of the block for deferred calls
  let R : LoopState → Loop := fun st => { state := st, pending := none, fn := fn, tmps := a.tmps, params := ps, assign := assign, body := body, defers := w.heap.size }
  let D := w.heap.size
  let L := w.heap.size + 1
  let W0 := (w.alloc (.deferred (some []))).alloc (.loop (R .ready))
  have hD0 : W0.heap[D]? = some (.deferred (some [])) := (Below.heap_alloc _ _ _ (by simp [D])).trans (World.alloc_heap_new w _)
  have hL0 : W0.heap[L]? = some (.loop (R .ready)) := by
    have := World.alloc_heap_new (w.alloc (.deferred (some []))) (.loop (R .ready))
    rwa [World.size_alloc] at this
  have hB0 : Below w.heap.size w W0 := ((Below.refl _ w).alloc (Nat.le_refl _) _).alloc (by simp) _
  have hI0 : I [] W0 := hI.alloc _ (hI.alloc _ h0)
  have nL : ¬ Kb L := fun h => by have := hKb _ h; omega
  refine ⟨L, [{ target := .collected D, args := #[] }], W0, { target := .fn (.func gf) lb, args := #[.func (.yield L) #[] #[]] }, W0, gf, #[.func (.yield L) #[] #[]] ++ lb, W0, run_enterLoop_outer _ _ _ _ _, ?_, ?_, ?_, fun _ => h1, ?_⟩
  · simp only [resolve, hg]
    simp [go_sem]
  · intro f' hf'
    simp [Target.leads] at hf'
    exact hf' ▸ hFg
  · simp [invoke, go_sem, eg]
  · let J : List α → World → Prop := fun pre W => I pre W ∧ W.heap[L]? = some (.loop (R .ready)) ∧ W.heap[D]? = some (.deferred (some []))
    have lt_of : ∀ {W : World} {k : Nat} {o : Obj}, W.heap[k]? = some o → k < W.heap.size := fun h => (Array.getElem?_eq_some_iff.1 h).1
    have hJg : ∀ s X Y, J s X → X.grownBy Y none → J s Y := fun s X Y hs hgr =>
      ⟨hI s X Y none hs.1 hgr (by simp), (hgr.block _ (lt_of hs.2.1) (by simp)).trans hs.2.1, (hgr.block _ (lt_of hs.2.2) (by simp)).trans hs.2.2⟩
    have round : ∀ pre x W1, J pre W1 → Px pre x W1 → YieldAt F (n - 1 - 1) P L (encs x) W1 fun e W' => e = .returned (.bool true) ∧ J (pre ++ [x]) W' ∧ Keep Kb W1 W' := by
      intro pre x W1 hJ hx
      refine ⟨fn, _, assign, body, run_yield hJ.2.1 (hps x), roundIn_of_wpIn hfn (hassign L x W1 _ ⟨_, run_beginRound hJ.2.1 rfl, ?_⟩)⟩
      have hLlt := lt_of hJ.2.1
      refine wpIn_mono (hbody L pre x _ (by omega) (hI.putObj _ hJ.1 (by omega) hJ.2.1 rfl) ((hPx pre x).putObj (s := ()) _ hx (by omega) hJ.2.1 rfl)) ?_
      rintro e _ W3 ⟨rfl, hkf, hkb, hi3⟩
      have hL3 := hkf.same L (.loop (R .busy)) (by omega) (World.putObj_heap_same hLlt) rfl
      have hD3 := hkf.same D (.deferred (some [])) (Nat.le_refl _) ((World.putObj_heap_other (by omega)).trans hJ.2.2) rfl
      exact ⟨_, _, run_endRound none hL3, rfl, ⟨hI.putObj _ hi3 (by omega) hL3 rfl, World.putObj_heap_same (lt_of hL3), (World.putObj_heap_other (by omega)).trans hD3⟩, ((Keep.put _ nL).trans hkb).trans (Keep.put _ nL)⟩
    refine (hit L J W0 hB0 hJg round ⟨hI0, hL0, hD0⟩).mono ?_
    rintro e W2 ⟨⟨v, rfl⟩, xs, hS, hi, hL, hD⟩
    exact ⟨none, _, run_endLoop hL (by simp [R]), hdone D xs _ (Nat.le_refl _) hS (hI.putObj _ hi (by omega) hL rfl) ((World.putObj_heap_other (by omega)).trans hD)⟩

end Go.Proofs.YtdjodigimhgklaaGreatDoor

/- A cell of a row of bytes just made. -/
namespace Go.Proofs.YtdjodigimhgklaaGreatDoor
open Go.RowKit

theorem made_cell (H n : Nat) (w : World) (hg : w.heap[H]? = some (.cells (madeCells #[Value.int .u8 0] n) 5 (0, 0))) (j : Nat) (h : j < n) : w.cell? ⟨H, j, none⟩ = some (.int .u8 0) ∧ w.frozen? ⟨H, j, none⟩ = false := by
  constructor
  · rw [cell_of_row w H j _ _ _ hg]
    simp [madeCells, h, Nat.mod_one]
  · simp [World.frozen?, hg]

theorem str_bt (s : ByteArray) (k : Nat) (h : k < s.size) : (s[k].toNat : Int) = bt s.data.toList k := by
  unfold bt
  rw [List.getD_eq_getElem?_getD, List.getElem?_eq_getElem (by simpa using h)]
  rfl

end Go.Proofs.YtdjodigimhgklaaGreatDoor

/- A range over a function whose body may leave it, where the body is told what the memory holds of the values that it is handed (Px). Of no program; no law of the library says it. -/
namespace Go.Proofs.YtdjodigimhgklaaGreatDoor
open Go.RowKit Go.Shelf

/-- the iterator's word: whatever the loop's body, it goes on, or leaves -/
def TellsB {α : Type} (F : Fence) (n : Nat) (P : Program) (gf : Nat) (lb : Array Value) (encs : α → Array Value) (Px : List α → α → World → Prop) (Kb : Nat → Prop) (S : List α → Prop) (w : World) : Prop :=
  ∀ (l : Nat) (J Jx : List α → World → Prop) (W : World), Below w.heap.size w W → (∀ s X Y, J s X → X.grownBy Y none → J s Y) → (∀ s X Y, Jx s X → X.grownBy Y none → Jx s Y) →
    (∀ pre x W1, J pre W1 → Px pre x W1 → YieldAt F (n - 1) P l (encs x) W1 fun e W' => (e = .returned (.bool true) ∧ J (pre ++ [x]) W' ∧ Keep Kb W1 W') ∨ (e = .returned (.bool false) ∧ Jx (pre ++ [x]) W')) →
    J [] W → CallsIn F n P gf (#[.func (.yield l) #[] #[]] ++ lb) W fun e W' => (∃ v, e = .returned v) ∧ ((∃ xs, S xs ∧ J xs W') ∨ ∃ pre, Jx pre W')

/-- how a round may be left -/
def bothPost {α : Type} (B : Nat) (Kb : Nat → Prop) (I : List α → World → Prop) (Ix : Code → List α → World → Prop) (xs : List α) (W : World) : Exit → Act → World → Prop
  | .normal, _, W' => KeepsFrom B W W' ∧ Keep Kb W W' ∧ I xs W'
  | .ret, _, W' => KeepsFrom B W W' ∧ Ix .ret xs W'
  | .exit id, _, W' => KeepsFrom B W W' ∧ Ix (.exit id) xs W'
  | _, _, _ => False

theorem range_both {α : Type} {F : Fence} {n : Nat} {P : Program} {g : Operand} {ps : Array Tmp} {assign body : Code} {Q : Exit → Act → World → Prop} {a : Act} {w : World}
    (hro : F.round = none) (h1 : 1 ≤ n) {gf : Nat} {lb : Array Value} (hg : a.eval g = .func (.func gf) #[] lb) (hFg : F.fn gf) (eg : ∀ args w, (callFunc gf args).run P w = .ok (.enter gf args) w)
    {encs : α → Array Value} {Px : List α → α → World → Prop} {Kb : Nat → Prop} {S : List α → Prop} (hit : TellsB F (n - 1) P gf lb encs Px Kb S w) (hps : ∀ x, (encs x).size = ps.size) (hKb : ∀ k, Kb k → k < w.heap.size)
    (I : List α → World → Prop) (Ix : Code → List α → World → Prop) (hI : OwnFrom w.heap.size I) (hIx : ∀ c, OwnFrom w.heap.size (Ix c)) (hPx : ∀ pre x, OwnFrom w.heap.size (fun (_ : Unit) W => Px pre x W)) (h0 : I [] w) (a₁ : α → Act)
    (hassign : ∀ (l : Nat) (x : α) (W : World) (K : Act → World → Prop), K (a₁ x) W →
      assign.wpIn (F.inRound l) (n - 1 - 1) P (Exit.then K (fun _ _ _ => False)) { tmps := (ps.zip (encs x)).foldl (fun t (p, v) => t.setIfInBounds p v) a.tmps, defers := [] } W)
    (hbody : ∀ (l : Nat) (pre : List α) (x : α) (W : World), w.heap.size ≤ l → I pre W → Px pre x W → body.wpIn (F.inRound l) (n - 1 - 1) P (bothPost w.heap.size Kb I Ix (pre ++ [x]) W) (a₁ x) W)
    (hdone : ∀ (D : Nat) (xs : List α) (W : World), w.heap.size ≤ D → S xs → I xs W → W.heap[D]? = some (.deferred (some [])) → Q .normal { a with defers := { target := .collected D, args := #[] } :: a.defers } W)
    (hstop : ∀ (D : Nat) (c : Code) (pre : List α) (W : World), w.heap.size ≤ D → Ix c pre W → W.heap[D]? = some (.deferred (some [])) → c.wpIn F n P Q { a with defers := { target := .collected D, args := #[] } :: a.defers } W) :
    (Code.rangeFunc g ps assign body).wpIn F n P Q a w := by
  refine wpIn_rangeFunc fun fn hfn => ?_
  rw [hro]
  let R : LoopState → Option Code → Loop := fun st pe => { state := st, pending := pe, fn := fn, tmps := a.tmps, params := ps, assign := assign, body := body, defers := w.heap.size }
  let D := w.heap.size
  let L := w.heap.size + 1
  let W0 := (w.alloc (.deferred (some []))).alloc (.loop (R .ready none))
  have hD0 : W0.heap[D]? = some (.deferred (some [])) := (Below.heap_alloc _ _ _ (by simp [D])).trans (World.alloc_heap_new w _)
  have hL0 : W0.heap[L]? = some (.loop (R .ready none)) := by
    have := World.alloc_heap_new (w.alloc (.deferred (some []))) (.loop (R .ready none))
    rwa [World.size_alloc] at this
  have hB0 : Below w.heap.size w W0 := ((Below.refl _ w).alloc (Nat.le_refl _) _).alloc (by simp) _
  have hI0 : I [] W0 := hI.alloc _ (hI.alloc _ h0)
  have nL : ¬ Kb L := fun h => by have := hKb _ h; omega
  refine ⟨L, [{ target := .collected D, args := #[] }], W0, { target := .fn (.func gf) lb, args := #[.func (.yield L) #[] #[]] }, W0, gf, #[.func (.yield L) #[] #[]] ++ lb, W0, run_enterLoop_outer _ _ _ _ _, ?_, ?_, ?_, fun _ => h1, ?_⟩
  · simp only [resolve, hg]
    simp [go_sem]
  · intro f' hf'
    simp [Target.leads] at hf'
    exact hf' ▸ hFg
  · simp [invoke, go_sem, eg]
  · let J : List α → World → Prop := fun pre W => I pre W ∧ W.heap[L]? = some (.loop (R .ready none)) ∧ W.heap[D]? = some (.deferred (some []))
    let Jx : List α → World → Prop := fun pre W => ∃ c, Ix c pre W ∧ W.heap[L]? = some (.loop (R .done (some c))) ∧ W.heap[D]? = some (.deferred (some []))
    have lt_of : ∀ {W : World} {k : Nat} {o : Obj}, W.heap[k]? = some o → k < W.heap.size := fun h => (Array.getElem?_eq_some_iff.1 h).1
    have hJg : ∀ s X Y, J s X → X.grownBy Y none → J s Y := fun s X Y hs hgr =>
      ⟨hI s X Y none hs.1 hgr (by simp), (hgr.block _ (lt_of hs.2.1) (by simp)).trans hs.2.1, (hgr.block _ (lt_of hs.2.2) (by simp)).trans hs.2.2⟩
    have hJxg : ∀ s X Y, Jx s X → X.grownBy Y none → Jx s Y := fun s X Y ⟨c, hs⟩ hgr =>
      ⟨c, hIx c s X Y none hs.1 hgr (by simp), (hgr.block _ (lt_of hs.2.1) (by simp)).trans hs.2.1, (hgr.block _ (lt_of hs.2.2) (by simp)).trans hs.2.2⟩
    have round : ∀ pre x W1, J pre W1 → Px pre x W1 → YieldAt F (n - 1 - 1) P L (encs x) W1 fun e W' => (e = .returned (.bool true) ∧ J (pre ++ [x]) W' ∧ Keep Kb W1 W') ∨ (e = .returned (.bool false) ∧ Jx (pre ++ [x]) W') := by
      intro pre x W1 hJ hx
      refine ⟨fn, _, assign, body, run_yield hJ.2.1 (hps x), roundIn_of_wpIn hfn (hassign L x W1 _ ⟨_, run_beginRound hJ.2.1 rfl, ?_⟩)⟩
      have hLlt := lt_of hJ.2.1
      refine wpIn_mono (hbody L pre x _ (by omega) (hI.putObj _ hJ.1 (by omega) hJ.2.1 rfl) ((hPx pre x).putObj (s := ()) _ hx (by omega) hJ.2.1 rfl)) ?_
      have fin : ∀ (jump : Option Code) (W3 : World), KeepsFrom w.heap.size (W1.putObj L (.loop { R .ready none with state := .busy })) W3 →
          (Instr.endRound L jump).run P W3 = .ok (.bool jump.isNone) (W3.putObj L (.loop (R (if jump.isNone then .ready else .done) jump))) ∧
          (W3.putObj L (.loop (R (if jump.isNone then .ready else .done) jump))).heap[L]? = some (.loop (R (if jump.isNone then .ready else .done) jump)) ∧
          (W3.putObj L (.loop (R (if jump.isNone then .ready else .done) jump))).heap[D]? = some (.deferred (some [])) ∧
          W3.heap[L]? = some (.loop (R .busy none)) := fun jump W3 hk3 => by
        have hL3 : W3.heap[L]? = some (.loop (R .busy none)) := hk3.same L (.loop (R .busy none)) (by omega) (World.putObj_heap_same hLlt) rfl
        have hD3 := hk3.same D (.deferred (some [])) (Nat.le_refl _) ((World.putObj_heap_other (by omega)).trans hJ.2.2) rfl
        exact ⟨run_endRound jump hL3, World.putObj_heap_same (lt_of hL3), (World.putObj_heap_other (by omega)).trans hD3, hL3⟩
      rintro e a3 W3 hp
      cases e with
      | normal =>
        obtain ⟨hkf, hkb, hi3⟩ := hp
        obtain ⟨hr, hl4, hd4, hL3⟩ := fin none W3 hkf
        exact ⟨_, _, hr, .inl ⟨rfl, ⟨hI.putObj _ hi3 (by omega) hL3 rfl, hl4, hd4⟩, ((Keep.put _ nL).trans hkb).trans (Keep.put _ nL)⟩⟩
      | ret =>
        obtain ⟨hkf, hi3⟩ := hp
        obtain ⟨hr, hl4, hd4, hL3⟩ := fin (some .ret) W3 hkf
        exact ⟨_, _, hr, .inr ⟨rfl, ⟨.ret, (hIx _).putObj _ hi3 (by omega) hL3 rfl, hl4, hd4⟩⟩⟩
      | exit id =>
        obtain ⟨hkf, hi3⟩ := hp
        obtain ⟨hr, hl4, hd4, hL3⟩ := fin (some (.exit id)) W3 hkf
        exact ⟨_, _, hr, .inr ⟨rfl, ⟨.exit id, (hIx _).putObj _ hi3 (by omega) hL3 rfl, hl4, hd4⟩⟩⟩
      | goto t => exact hp.elim
      | panic ch => exact hp.elim
      | outgrown => exact hp.elim
    refine (hit L J Jx W0 hB0 hJg hJxg round ⟨hI0, hL0, hD0⟩).mono ?_
    rintro e W2 ⟨⟨v, rfl⟩, (⟨xs, hS, hi, hL, hD⟩ | ⟨pre, c, hi, hL, hD⟩)⟩
    · exact ⟨none, _, run_endLoop hL (by simp [R]), hdone D xs _ (Nat.le_refl _) hS (hI.putObj _ hi (by omega) hL rfl) ((World.putObj_heap_other (by omega)).trans hD)⟩
    · exact ⟨some c, _, run_endLoop hL (by simp [R]), hstop D c pre _ (Nat.le_refl _) ((hIx c).putObj _ hi (by omega) hL rfl) ((World.putObj_heap_other (by omega)).trans hD)⟩

end Go.Proofs.YtdjodigimhgklaaGreatDoor

/- Plain: pairs put into their place one by one. -/
namespace Go.Proofs.YtdjodigimhgklaaGreatDoor
open Go.RowKit

/-- where the first pair with that From stands; -1: nowhere -/
def idxF : List Pr → Nat → Nat → Int
  | [], _, _ => -1
  | p :: r, x, k => if p.1 = x then (k : Int) else idxF r x (k + 1)
theorem idxF_none : ∀ (l : List Pr) (x k : Nat), lookP l x = none → idxF l x k = -1
  | [], _, _, _ => rfl
  | p :: r, x, k, h => by
    rw [lookP] at h
    rw [idxF]
    split at h
    · cases h
    · rename_i hp
      rw [if_neg hp]
      exact idxF_none r x (k + 1) h
theorem idxF_some : ∀ (l : List Pr) (x k y : Nat), lookP l x = some y → ∃ j, idxF l x k = ((k + j : Nat) : Int) ∧ l[j]? = some (x, y)
  | [], _, _, _, h => by cases h
  | p :: r, x, k, y, h => by
    rw [lookP] at h
    rw [idxF]
    split at h
    · rename_i hp
      cases h
      rw [if_pos hp]
      exact ⟨0, rfl, by rw [← hp]; rfl⟩
    · rename_i hp
      rw [if_neg hp]
      obtain ⟨j, h1, h2⟩ := idxF_some r x (k + 1) y h
      exact ⟨j + 1, by rw [h1]; congr 1; omega, by simpa using h2⟩
/-- what Put answers -/
def PutR (l : List Pr) (p : Pr) (l' : List Pr) : Prop :=
  (lookP l p.1 ≠ none ∧ l' = l) ∨ (lookP l p.1 = none ∧ ∃ k, k ≤ l.length ∧ l' = l.take k ++ p :: l.drop k ∧ (∀ q ∈ l.take k, q.1 < p.1) ∧ ∀ q, l[k]? = some q → ¬ q.1 < p.1)
theorem mem_key {l : List Pr} {x : Nat} (h : lookP l x ≠ none) : x ∈ l.map (·.1) := by
  cases hy : lookP l x with
  | none => exact absurd hy h
  | some y => exact List.mem_map.2 ⟨(x, y), look_mem hy, rfl⟩
theorem key_none {l : List Pr} {x : Nat} : lookP l x = none ↔ x ∉ l.map (·.1) := by
  rw [look_none]
  constructor
  · intro h hx
    obtain ⟨p, hp, e⟩ := List.mem_map.1 hx
    exact h p hp e
  · intro h p hp e
    exact h (List.mem_map.2 ⟨p, hp, e⟩)
theorem putR_ris {l l' : List Pr} {p : Pr} (hl : Ris l) (h : PutR l p l') : Ris l' := by
  rcases h with ⟨_, rfl⟩ | ⟨hn, k, hk, rfl, h1, h2⟩
  · exact hl
  · unfold Ris at hl ⊢
    have hl2 := hl
    rw [← List.take_append_drop k l, List.pairwise_append] at hl2
    obtain ⟨a1, a2, a3⟩ := hl2
    have hd : ∀ q ∈ l.drop k, p.1 < q.1 := by
      intro q hq
      cases hdk : l.drop k with
      | nil => rw [hdk] at hq; cases hq
      | cons d r =>
        have e0 : l[k]? = some d := by
          have := congrArg (·[0]?) hdk
          simpa using this
        have h3 := h2 d e0
        have h4 : d.1 ≠ p.1 := (look_none l p.1).1 hn d (List.mem_of_getElem? e0)
        rw [hdk] at hq a2
        rcases List.mem_cons.1 hq with rfl | hq
        · omega
        · have := (List.pairwise_cons.1 a2).1 q hq
          omega
    rw [List.pairwise_append, List.pairwise_cons]
    refine ⟨a1, ⟨hd, a2⟩, fun a ha b hb => ?_⟩
    rcases List.mem_cons.1 hb with rfl | hb
    · exact h1 a ha
    · exact a3 a ha b hb
theorem putR_look {l l' : List Pr} {p : Pr} (h : PutR l p l') (x : Nat) : lookP l' x = (lookP l x).or (if p.1 = x then some p.2 else none) := by
  rcases h with ⟨hn, rfl⟩ | ⟨hn, k, hk, rfl, _, _⟩
  · by_cases e : p.1 = x
    · subst e
      cases hy : lookP l' p.1 with
      | none => exact absurd hy hn
      | some y => rfl
    · rw [if_neg e]
      cases lookP l' x <;> rfl
  · rw [look_app, lookP]
    have e0 : lookP l x = (lookP (l.take k) x).or (lookP (l.drop k) x) := by rw [← look_app, List.take_append_drop]
    rw [e0]
    by_cases e : p.1 = x
    · subst e
      rw [if_pos rfl]
      rw [e0] at hn
      rw [hn]
      cases h1 : lookP (l.take k) p.1 with
      | none => rw [if_pos rfl]
      | some y => rw [h1] at hn; cases hn
    · rw [if_neg e, if_neg e]
      cases lookP (l.take k) x <;> cases lookP (l.drop k) x <;> rfl
theorem putR_len {l l' : List Pr} {p : Pr} (h : PutR l p l') : l'.length ≤ l.length + 1 := by
  rcases h with ⟨_, rfl⟩ | ⟨_, k, hk, rfl, _⟩
  · omega
  · simp; omega
theorem putR_ok {l l' : List Pr} {p : Pr} (h : PutR l p l') (hl : PrOk l) (hp : PrOk [p]) : PrOk l' := by
  rcases h with ⟨_, rfl⟩ | ⟨_, k, hk, rfl, _⟩
  · exact hl
  · exact (hl.take k).app (PrOk.cons hp.head.1 hp.head.2 (hl.drop k))
/-- what Sorted answers -/
structure SortR (l l' : List Pr) : Prop where
  ris : Ris l'
  look : ∀ x, lookP l' x = lookP l x
  ok : PrOk l → PrOk l'
  len : l'.length ≤ l.length
  one : l'.length = l.length ↔ Once l
theorem SortR.start : SortR [] [] := ⟨List.Pairwise.nil, fun _ => rfl, fun h => h, Nat.le_refl _, ⟨fun _ => List.nodup_nil, fun _ => rfl⟩⟩
theorem SortR.step {l l' l'' : List Pr} {p : Pr} (h : SortR l l') (hp : PutR l' p l'') : SortR (l ++ [p]) l'' := by
  refine ⟨putR_ris h.ris hp, fun x => ?_, fun hok => ?_, ?_, ?_⟩
  · rw [putR_look hp, h.look, look_app]
    rfl
  · have h1 : PrOk l := fun q hq => hok q (List.mem_append_left _ hq)
    have h2 : PrOk [p] := fun q hq => hok q (List.mem_append_right _ hq)
    exact putR_ok hp (h.ok h1) h2
  · have := putR_len hp
    have := h.len
    simp; omega
  · have e : Once (l ++ [p]) ↔ Once l ∧ lookP l p.1 = none := by
      unfold Once
      rw [List.map_append, List.nodup_append, key_none]
      simp only [List.map_cons, List.map_nil, List.mem_singleton]
      constructor
      · rintro ⟨a1, _, a3⟩
        exact ⟨a1, fun hx => a3 _ hx _ rfl rfl⟩
      · rintro ⟨a1, a2⟩
        exact ⟨a1, by simp, fun a ha b hb e => a2 (by rw [← hb, ← e]; exact ha)⟩
    rw [e, ← h.one, ← h.look]
    have hl := h.len
    rw [List.length_append, List.length_singleton]
    rcases hp with ⟨hn, rfl⟩ | ⟨hn, k, hk, rfl, _⟩
    · exact ⟨fun h => by omega, fun ⟨_, h⟩ => absurd h hn⟩
    · rw [List.length_append, List.length_cons, List.length_take, List.length_drop]
      exact ⟨fun h => ⟨by omega, hn⟩, fun ⟨h, _⟩ => by omega⟩
/-- pairs that rise, found in l, are what Sorted answers -/
theorem SortR.uniq {l l' d : List Pr} (h : SortR l l') (hd : Ris d) (hl : ∀ x, lookP d x = lookP l x) : d = l' :=
  ris_ext d l' hd h.ris fun x => by rw [hl, h.look]
end Go.Proofs.YtdjodigimhgklaaGreatDoor

/- Plain: two lists of pairs joined. -/
namespace Go.Proofs.YtdjodigimhgklaaGreatDoor
open Go.RowKit

/-- two lists by rising From; of two with one From that of the first -/
def joinL : List Pr → List Pr → List Pr
  | [], m => m
  | p :: l, [] => p :: l
  | p :: l, q :: m => if q.1 < p.1 then q :: joinL (p :: l) m else if q.1 = p.1 then p :: joinL l m else p :: joinL l (q :: m)
termination_by l m => l.length + m.length
theorem joinL_nil (l : List Pr) : joinL l [] = l := by cases l <;> simp [joinL]
theorem joinL_less {p q : Pr} {l m : List Pr} (h : q.1 < p.1) : joinL (p :: l) (q :: m) = q :: joinL (p :: l) m := by rw [joinL, if_pos h]
theorem joinL_same {p q : Pr} {l m : List Pr} (h : q.1 = p.1) : joinL (p :: l) (q :: m) = p :: joinL l m := by rw [joinL, if_neg (by omega), if_pos h]
theorem joinL_more {p q : Pr} {l m : List Pr} (h : p.1 < q.1) : joinL (p :: l) (q :: m) = p :: joinL l (q :: m) := by rw [joinL, if_neg (by omega), if_neg (by omega)]
theorem joinL_mem (l m : List Pr) : ∀ x ∈ joinL l m, x ∈ l ∨ x ∈ m := by
  induction l, m using joinL.induct with
  | case1 m => intro x h; rw [joinL] at h; exact .inr h
  | case2 p l => intro x h; rw [joinL_nil] at h; exact .inl h
  | case3 p l q m hlt ih =>
    intro x h
    rw [joinL_less hlt] at h
    rcases List.mem_cons.1 h with rfl | h
    · exact .inr (List.mem_cons_self ..)
    · exact (ih x h).imp id (List.mem_cons_of_mem _)
  | case4 p l q m hlt he ih =>
    intro x h
    rw [joinL_same he] at h
    rcases List.mem_cons.1 h with rfl | h
    · exact .inl (List.mem_cons_self ..)
    · exact (ih x h).imp (List.mem_cons_of_mem _) (List.mem_cons_of_mem _)
  | case5 p l q m hlt he ih =>
    intro x h
    rw [joinL_more (by omega)] at h
    rcases List.mem_cons.1 h with rfl | h
    · exact .inl (List.mem_cons_self ..)
    · exact (ih x h).imp (List.mem_cons_of_mem _) id
theorem joinL_len (l m : List Pr) : (joinL l m).length ≤ l.length + m.length := by
  induction l, m using joinL.induct with
  | case1 m => rw [joinL]; simp
  | case2 p l => rw [joinL_nil]; simp
  | case3 p l q m hlt ih => rw [joinL_less hlt]; simp only [List.length_cons] at ih ⊢; omega
  | case4 p l q m hlt he ih => rw [joinL_same he]; simp only [List.length_cons] at ih ⊢; omega
  | case5 p l q m hlt he ih => rw [joinL_more (by omega)]; simp only [List.length_cons] at ih ⊢; omega
theorem joinL_ok {l m : List Pr} (hl : PrOk l) (hm : PrOk m) : PrOk (joinL l m) := fun p hp => (joinL_mem l m p hp).elim (hl p) (hm p)
theorem joinL_ris (l m : List Pr) : Ris l → Ris m → Ris (joinL l m) := by
  unfold Ris
  induction l, m using joinL.induct with
  | case1 m => intro _ h; rw [joinL]; exact h
  | case2 p l => intro h _; rw [joinL_nil]; exact h
  | case3 p l q m hlt ih =>
    intro hl hm
    rw [joinL_less hlt]
    have hm' := List.pairwise_cons.1 hm
    have hl' := List.pairwise_cons.1 hl
    refine List.pairwise_cons.2 ⟨fun x hx => ?_, ih hl hm'.2⟩
    rcases joinL_mem _ _ x hx with h | h
    · rcases List.mem_cons.1 h with rfl | h
      · exact hlt
      · have := hl'.1 x h; omega
    · exact hm'.1 x h
  | case4 p l q m hlt he ih =>
    intro hl hm
    rw [joinL_same he]
    have hm' := List.pairwise_cons.1 hm
    have hl' := List.pairwise_cons.1 hl
    refine List.pairwise_cons.2 ⟨fun x hx => ?_, ih hl'.2 hm'.2⟩
    rcases joinL_mem _ _ x hx with h | h
    · exact hl'.1 x h
    · have := hm'.1 x h; omega
  | case5 p l q m hlt he ih =>
    intro hl hm
    rw [joinL_more (by omega)]
    have hm' := List.pairwise_cons.1 hm
    have hl' := List.pairwise_cons.1 hl
    refine List.pairwise_cons.2 ⟨fun x hx => ?_, ih hl'.2 hm⟩
    rcases joinL_mem _ _ x hx with h | h
    · exact hl'.1 x h
    · rcases List.mem_cons.1 h with rfl | h
      · omega
      · have := hm'.1 x h; omega
theorem joinL_look (l m : List Pr) (x : Nat) : Ris l → Ris m → lookP (joinL l m) x = (lookP l x).or (lookP m x) := by
  unfold Ris
  induction l, m using joinL.induct with
  | case1 m => intro _ _; rw [joinL]; rfl
  | case2 p l => intro _ _; rw [joinL_nil]; cases lookP (p :: l) x <;> rfl
  | case3 p l q m hlt ih =>
    intro hl hm
    have hm' := List.pairwise_cons.1 hm
    have hl' := List.pairwise_cons.1 hl
    rw [joinL_less hlt, lookP, ih hl hm'.2]
    by_cases e : q.1 = x
    · have hn : lookP (p :: l) x = none := (look_none _ x).2 fun y hy => by
        rcases List.mem_cons.1 hy with rfl | hy
        · omega
        · have := hl'.1 y hy; omega
      rw [if_pos e, hn, lookP, if_pos e]
      rfl
    · rw [if_neg e, lookP.eq_def (q :: m)]
      simp only [if_neg e]
  | case4 p l q m hlt he ih =>
    intro hl hm
    have hm' := List.pairwise_cons.1 hm
    have hl' := List.pairwise_cons.1 hl
    rw [joinL_same he, lookP, ih hl'.2 hm'.2, lookP]
    by_cases e : p.1 = x
    · simp only [if_pos e]
      rfl
    · simp only [if_neg e]
      rw [lookP, if_neg (by omega)]
  | case5 p l q m hlt he ih =>
    intro hl hm
    have hl' := List.pairwise_cons.1 hl
    rw [joinL_more (by omega), lookP, ih hl'.2 hm, lookP.eq_def (p :: l)]
    by_cases e : p.1 = x
    · simp only [if_pos e]
      rfl
    · simp only [if_neg e]
end Go.Proofs.YtdjodigimhgklaaGreatDoor
