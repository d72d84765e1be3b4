import Derived.RangeFuncNested
import Derived.RangeFuncBound
import Derived.RangeFuncCalls
import Derived.RangeFuncLeaves
import Derived.Shelf.Abstract
import Derived.Shelf.RegionOpen
import Derived.WalkKit
import Derived.OwnWalkIn
import Derived.TacticsInMore
import Derived.LoopNIn
import Derived.LoopIn
import Derived.Test.YtdjodigimhgklaaGreatDoorProg
import Derived.Test.YtdjodigimhgklaaGreatDoorN07
/- A range over a function whose body never leaves it, where the body is told what the memory holds of the values that it is handed (Px). Of no program; no law of the library says it. -/
namespace Go.Proofs.YtdjodigimhgklaaGreatDoor
open Go.RowKit Go.Shelf

/-- these blocks are as they were -/
def Keep (Kb : Nat → Prop) (W W' : World) : Prop := W.heap.size ≤ W'.heap.size ∧ ∀ k, Kb k → W'.heap[k]? = W.heap[k]?
theorem Keep.refl (Kb : Nat → Prop) (W : World) : Keep Kb W W := ⟨Nat.le_refl _, fun _ _ => rfl⟩
theorem Keep.trans {Kb : Nat → Prop} {X Y Z : World} (h : Keep Kb X Y) (k : Keep Kb Y Z) : Keep Kb X Z := ⟨Nat.le_trans h.1 k.1, fun i hi => (k.2 i hi).trans (h.2 i hi)⟩
theorem Keep.put {Kb : Nat → Prop} {W : World} {l : Nat} (o : Obj) (h : ¬ Kb l) : Keep Kb W (W.putObj l o) := ⟨by simp, fun k hk => World.putObj_heap_other (fun e => h (e ▸ hk))⟩

/-- the iterator's word: whatever the loop's body, if each of its rounds goes on -/
def Tells {α : Type} (F : Fence) (n : Nat) (P : Program) (gf : Nat) (lb : Array Value) (encs : α → Array Value) (Px : List α → α → World → Prop) (Kb : Nat → Prop) (S : List α → Prop) (w : World) : Prop :=
  ∀ (l : Nat) (J : List α → World → Prop) (W : World), Below w.heap.size w W → (∀ s X Y, J s X → X.grownBy Y none → J s Y) →
    (∀ pre x W1, J pre W1 → Px pre x W1 → YieldAt F (n - 1) P l (encs x) W1 fun e W' => e = .returned (.bool true) ∧ J (pre ++ [x]) W' ∧ Keep Kb W1 W') →
    J [] W → CallsIn F n P gf (#[.func (.yield l) #[] #[]] ++ lb) W fun e W' => (∃ v, e = .returned v) ∧ ∃ xs, S xs ∧ J xs W'

theorem range_told {α : Type} {F : Fence} {n : Nat} {P : Program} {g : Operand} {ps : Array Tmp} {assign body : Code} {Q : Exit → Act → World → Prop} {a : Act} {w : World}
    (hro : F.round = none) (h1 : 1 ≤ n) {gf : Nat} {lb : Array Value} (hg : a.eval g = .func (.func gf) #[] lb) (hFg : F.fn gf) (eg : ∀ args w, (callFunc gf args).run P w = .ok (.enter gf args) w)
    {encs : α → Array Value} {Px : List α → α → World → Prop} {Kb : Nat → Prop} {S : List α → Prop} (hit : Tells F (n - 1) P gf lb encs Px Kb S w) (hps : ∀ x, (encs x).size = ps.size) (hKb : ∀ k, Kb k → k < w.heap.size)
    (I : List α → World → Prop) (hI : OwnFrom w.heap.size I) (hPx : ∀ pre x, OwnFrom w.heap.size (fun (_ : Unit) W => Px pre x W)) (h0 : I [] w) (a₁ : α → Act)
    (hassign : ∀ (l : Nat) (x : α) (W : World) (K : Act → World → Prop), K (a₁ x) W →
      assign.wpIn (F.inRound l) (n - 1 - 1) P (Exit.then K (fun _ _ _ => False)) { tmps := (ps.zip (encs x)).foldl (fun t (p, v) => t.setIfInBounds p v) a.tmps, defers := [] } W)
    (hbody : ∀ (l : Nat) (pre : List α) (x : α) (W : World), w.heap.size ≤ l → I pre W → Px pre x W → body.wpIn (F.inRound l) (n - 1 - 1) P (fun e _ W' => e = .normal ∧ KeepsFrom w.heap.size W W' ∧ Keep Kb W W' ∧ I (pre ++ [x]) W') (a₁ x) W)
    (hdone : ∀ (D : Nat) (xs : List α) (W : World), w.heap.size ≤ D → S xs → I xs W → W.heap[D]? = some (.deferred (some [])) → Q .normal { a with defers := { target := .collected D, args := #[] } :: a.defers } W) :
    (Code.rangeFunc g ps assign body).wpIn F n P Q a w := by
  refine wpIn_rangeFunc fun fn hfn => ?_
  rw [hro]
  -- the record of the loop, in each of its states; its place, and that of the block for deferred calls
  let R : LoopState → Loop := fun st => { state := st, pending := none, fn := fn, tmps := a.tmps, params := ps, assign := assign, body := body, defers := w.heap.size }
  let D := w.heap.size
  let L := w.heap.size + 1
  let W0 := (w.alloc (.deferred (some []))).alloc (.loop (R .ready))
  have hD0 : W0.heap[D]? = some (.deferred (some [])) := (Below.heap_alloc _ _ _ (by simp [D])).trans (World.alloc_heap_new w _)
  have hL0 : W0.heap[L]? = some (.loop (R .ready)) := by
    have := World.alloc_heap_new (w.alloc (.deferred (some []))) (.loop (R .ready))
    rwa [World.size_alloc] at this
  have hB0 : Below w.heap.size w W0 := ((Below.refl _ w).alloc (Nat.le_refl _) _).alloc (by simp) _
  have hI0 : I [] W0 := hI.alloc _ (hI.alloc _ h0)
  have nL : ¬ Kb L := fun h => by have := hKb _ h; omega
  refine ⟨L, [{ target := .collected D, args := #[] }], W0, { target := .fn (.func gf) lb, args := #[.func (.yield L) #[] #[]] }, W0, gf, #[.func (.yield L) #[] #[]] ++ lb, W0, run_enterLoop_outer _ _ _ _ _, ?_, ?_, ?_, fun _ => h1, ?_⟩
  · simp only [resolve, hg]
    simp [go_sem]
  · intro f' hf'
    simp [Target.leads] at hf'
    exact hf' ▸ hFg
  · simp [invoke, go_sem, eg]
  · let J : List α → World → Prop := fun pre W => I pre W ∧ W.heap[L]? = some (.loop (R .ready)) ∧ W.heap[D]? = some (.deferred (some []))
    have lt_of : ∀ {W : World} {k : Nat} {o : Obj}, W.heap[k]? = some o → k < W.heap.size := fun h => (Array.getElem?_eq_some_iff.1 h).1
    have hJg : ∀ s X Y, J s X → X.grownBy Y none → J s Y := fun s X Y hs hgr =>
      ⟨hI s X Y none hs.1 hgr (by simp), (hgr.block _ (lt_of hs.2.1) (by simp)).trans hs.2.1, (hgr.block _ (lt_of hs.2.2) (by simp)).trans hs.2.2⟩
    have round : ∀ pre x W1, J pre W1 → Px pre x W1 → YieldAt F (n - 1 - 1) P L (encs x) W1 fun e W' => e = .returned (.bool true) ∧ J (pre ++ [x]) W' ∧ Keep Kb W1 W' := by
      intro pre x W1 hJ hx
      refine ⟨fn, _, assign, body, run_yield hJ.2.1 (hps x), roundIn_of_wpIn hfn (hassign L x W1 _ ⟨_, run_beginRound hJ.2.1 rfl, ?_⟩)⟩
      have hLlt := lt_of hJ.2.1
      refine wpIn_mono (hbody L pre x _ (by omega) (hI.putObj _ hJ.1 (by omega) hJ.2.1 rfl) ((hPx pre x).putObj (s := ()) _ hx (by omega) hJ.2.1 rfl)) ?_
      rintro e _ W3 ⟨rfl, hkf, hkb, hi3⟩
      have hL3 := hkf.same L (.loop (R .busy)) (by omega) (World.putObj_heap_same hLlt) rfl
      have hD3 := hkf.same D (.deferred (some [])) (Nat.le_refl _) ((World.putObj_heap_other (by omega)).trans hJ.2.2) rfl
      exact ⟨_, _, run_endRound none hL3, rfl, ⟨hI.putObj _ hi3 (by omega) hL3 rfl, World.putObj_heap_same (lt_of hL3), (World.putObj_heap_other (by omega)).trans hD3⟩, ((Keep.put _ nL).trans hkb).trans (Keep.put _ nL)⟩
    refine (hit L J W0 hB0 hJg round ⟨hI0, hL0, hD0⟩).mono ?_
    rintro e W2 ⟨⟨v, rfl⟩, xs, hS, hi, hL, hD⟩
    exact ⟨none, _, run_endLoop hL (by simp [R]), hdone D xs _ (Nat.le_refl _) hS (hI.putObj _ hi (by omega) hL rfl) ((World.putObj_heap_other (by omega)).trans hD)⟩

end Go.Proofs.YtdjodigimhgklaaGreatDoor

/- A cell of a row of bytes just made. -/
namespace Go.Proofs.YtdjodigimhgklaaGreatDoor
open Go.RowKit

theorem made_cell (H n : Nat) (w : World) (hg : w.heap[H]? = some (.cells (madeCells #[Value.int .u8 0] n) 5 (0, 0))) (j : Nat) (h : j < n) : w.cell? ⟨H, j, none⟩ = some (.int .u8 0) ∧ w.frozen? ⟨H, j, none⟩ = false := by
  constructor
  · rw [cell_of_row w H j _ _ _ hg]
    simp [madeCells, h, Nat.mod_one]
  · simp [World.frozen?, hg]

theorem str_bt (s : ByteArray) (k : Nat) (h : k < s.size) : (s[k].toNat : Int) = bt s.data.toList k := by
  unfold bt
  rw [List.getD_eq_getElem?_getD, List.getElem?_eq_getElem (by simpa using h)]
  rfl

end Go.Proofs.YtdjodigimhgklaaGreatDoor

/- The walk of the closure that puts a piece behind a file's end. -/
namespace Go.Proofs.YtdjodigimhgklaaGreatDoor
open Go.RowKit Go.Maps

/-- a file has these bytes more -/
def DG.add (S : DG) (l bs : List UInt8) : DG := S.set l ((S.f l).getD [] ++ bs)

set_option maxRecDepth 20000 in
set_option maxHeartbeats 2000000 in
theorem piece_any (p : Nat) (S : DG) (Fp : Nat → Prop) (w : World) (s : ByteArray) (Bd Bn Bp : Nat) (a : Option Addr) (m c : Nat) (l : List UInt8) (hd : IsDisk w p S Fp)
    (hbd : w.cell? ⟨Bd, 0, none⟩ = some (.pointer (some ⟨p, 0, none⟩))) (hbn : w.cell? ⟨Bn, 0, none⟩ = some (.string s)) (hbp : w.cell? ⟨Bp, 0, none⟩ = some (.slice a m c))
    (nd : ¬ Fp Bd) (nn : ¬ Fp Bn) (np : ¬ Fp Bp) (hb : Bytes w a m l) (hnil : a = none → m = 0 ∧ c = 0) (hs : s.size ≤ maxLen) (hlen : ((S.f s.data.toList).getD []).length + m ≤ 140737488355328) (hn : S.n < maxLen) :
    Calls Tryz.prog 96 #[.pointer (some ⟨Bd, 0, none⟩), .pointer (some ⟨Bn, 0, none⟩), .pointer (some ⟨Bp, 0, none⟩)] w fun e w' =>
      e = .returned (.tuple #[]) ∧ IsDisk w' p (S.add s.data.toList l) (grow Fp w w') ∧ Turn Fp w w' := by
  obtain ⟨b, M, hd⟩ := hd
  obtain ⟨v, hv, hrow, hvo⟩ := hd.value s.data.toList
  have c0 := hd.c0
  have hLk : ∀ W : World, W.heap[b]? = w.heap[b]? → (Instr.lookup 83 (.map (some b)) (.string s) false).run Tryz.prog W = .ok v W := by
    intro W hW
    have hown : W.ownsMap Tryz.prog 9 rv b (size M) M := by
      obtain ⟨es, clock, hb, r⟩ := hd.own
      exact ⟨es, clock, hW.trans hb, r⟩
    obtain ⟨u, ps, hrun, hu⟩ := hown.lookup keyed Tryz.underlying83 (zeroSlice W) (show rv (.slice none 0 0) = some (nils, []) from rfl) (keyOfS s hs)
    rw [hv] at hu
    have := rv_inv hu
    cases this
    exact hrun
  have hL0 := hLk w.drew rfl
  have ld := World.block_lt_of_cell? w _ hbd
  have ln := World.block_lt_of_cell? w _ hbn
  have lp := World.block_lt_of_cell? w _ hbp
  have l0 := World.block_lt_of_cell? w _ c0
  have hvn : ∀ g, v.ownBlock = some g → g ≠ Bd ∧ g ≠ Bn ∧ g ≠ Bp ∧ g ≠ p ∧ g ≠ b := fun g hg => ⟨fun e => nd (e ▸ (hvo g hg).1), fun e => nn (e ▸ (hvo g hg).1), fun e => np (e ▸ (hvo g hg).1), (hvo g hg).2.1, (hvo g hg).2.2.1⟩
  have hput : ∀ v' w1, w1.ownsRow 0 5 1 v' (((S.f s.data.toList).getD []).length + m) (cellsOf ((S.f s.data.toList).getD []) ++ cellsOf l) → w.drew.grownBy w1 v.ownBlock → (v'.ownBlock = v.ownBlock ∨ v'.ownBlock = some w.drew.heap.size) →
      ∃ w2, (Instr.mapUpdate 83 (.map (some b)) (.string s) v').run Tryz.prog w1 = .ok () w2 ∧ w2.cell? ⟨p, 0, none⟩ = some (.map (some b)) ∧ Hid (IsDisk w2 p (S.add s.data.toList l) (grow Fp w w2) ∧ Turn Fp w w2) := by
    intro v' w1 h1 h2 h3
    rw [← cellsOf_append, show ((S.f s.data.toList).getD []).length + m = ((S.f s.data.toList).getD [] ++ l).length by rw [List.length_append, hb.1]] at h1
    obtain ⟨w2, hr, hx, hT⟩ := hd.put s hs v v' _ hv hvo ⟨h2.os, h2.tape, h2.output, h2.size, h2.block⟩ h1 (hd.free_append _ v v' hv hvo h3) hn
    exact ⟨w2, hr, hx.c0, ⟨b, _, hx⟩, hT⟩
  have hbD : Bytes w.drew a m l := ⟨hb.1, hb.2⟩
  go_enter Tryz.func96, Tryz.ntmps96
  go_wp2_with fail
  go_region_held3 (fun W => W.cell? ⟨Bd, 0, none⟩ = some (.pointer (some ⟨p, 0, none⟩)) ∧ W.cell? ⟨Bn, 0, none⟩ = some (.string s) ∧ W.cell? ⟨Bp, 0, none⟩ = some (.slice a m c) ∧ W.cell? ⟨p, 0, none⟩ = some (.map (some b)))
    (first
      | (go_split_ands
         refine ⟨by go_keep, by go_keep, by go_keep, by go_keep⟩)
      | (go_split_ands
         exact ⟨(hgrow.cell hbd (fun e => (hvn _ e.symm).1 rfl)), (hgrow.cell hbn (fun e => (hvn _ e.symm).2.1 rfl)), (hgrow.cell hbp (fun e => (hvn _ e.symm).2.2.1 rfl)), (hgrow.cell c0 (fun e => (hvn _ e.symm).2.2.2.1 rfl))⟩)
      | (go_split_ands
         exact ⟨hfin.out.2.cell hbd nd, hfin.out.2.cell hbn nn, hfin.out.2.cell hbp np, hp2⟩))
    ((refine step_append_row _ (by rfl) _ _ (by rfl) v _ _ (by rfl) hrow.drew a m c l (by rfl) hbD hnil hlen ?_; intro v' w1 hown1 hgrow hat; obtain ⟨w2, hupd, hp2, hfin⟩ := hput v' w1 hown1 hgrow hat))
  go_wp2
  go_end0
  exact ⟨rfl, hfin.out⟩

end Go.Proofs.YtdjodigimhgklaaGreatDoor

/- A range over a function whose body may leave it, where the body is told what the memory holds of the values that it is handed (Px). Of no program; no law of the library says it. -/
namespace Go.Proofs.YtdjodigimhgklaaGreatDoor
open Go.RowKit Go.Shelf

/-- the iterator's word: whatever the loop's body, it goes on, or leaves -/
def TellsB {α : Type} (F : Fence) (n : Nat) (P : Program) (gf : Nat) (lb : Array Value) (encs : α → Array Value) (Px : List α → α → World → Prop) (Kb : Nat → Prop) (S : List α → Prop) (w : World) : Prop :=
  ∀ (l : Nat) (J Jx : List α → World → Prop) (W : World), Below w.heap.size w W → (∀ s X Y, J s X → X.grownBy Y none → J s Y) → (∀ s X Y, Jx s X → X.grownBy Y none → Jx s Y) →
    (∀ pre x W1, J pre W1 → Px pre x W1 → YieldAt F (n - 1) P l (encs x) W1 fun e W' => (e = .returned (.bool true) ∧ J (pre ++ [x]) W' ∧ Keep Kb W1 W') ∨ (e = .returned (.bool false) ∧ Jx (pre ++ [x]) W')) →
    J [] W → CallsIn F n P gf (#[.func (.yield l) #[] #[]] ++ lb) W fun e W' => (∃ v, e = .returned v) ∧ ((∃ xs, S xs ∧ J xs W') ∨ ∃ pre, Jx pre W')

/-- how a round may be left -/
def bothPost {α : Type} (B : Nat) (Kb : Nat → Prop) (I : List α → World → Prop) (Ix : Code → List α → World → Prop) (xs : List α) (W : World) : Exit → Act → World → Prop
  | .normal, _, W' => KeepsFrom B W W' ∧ Keep Kb W W' ∧ I xs W'
  | .ret, _, W' => KeepsFrom B W W' ∧ Ix .ret xs W'
  | .exit id, _, W' => KeepsFrom B W W' ∧ Ix (.exit id) xs W'
  | _, _, _ => False

theorem range_both {α : Type} {F : Fence} {n : Nat} {P : Program} {g : Operand} {ps : Array Tmp} {assign body : Code} {Q : Exit → Act → World → Prop} {a : Act} {w : World}
    (hro : F.round = none) (h1 : 1 ≤ n) {gf : Nat} {lb : Array Value} (hg : a.eval g = .func (.func gf) #[] lb) (hFg : F.fn gf) (eg : ∀ args w, (callFunc gf args).run P w = .ok (.enter gf args) w)
    {encs : α → Array Value} {Px : List α → α → World → Prop} {Kb : Nat → Prop} {S : List α → Prop} (hit : TellsB F (n - 1) P gf lb encs Px Kb S w) (hps : ∀ x, (encs x).size = ps.size) (hKb : ∀ k, Kb k → k < w.heap.size)
    (I : List α → World → Prop) (Ix : Code → List α → World → Prop) (hI : OwnFrom w.heap.size I) (hIx : ∀ c, OwnFrom w.heap.size (Ix c)) (hPx : ∀ pre x, OwnFrom w.heap.size (fun (_ : Unit) W => Px pre x W)) (h0 : I [] w) (a₁ : α → Act)
    (hassign : ∀ (l : Nat) (x : α) (W : World) (K : Act → World → Prop), K (a₁ x) W →
      assign.wpIn (F.inRound l) (n - 1 - 1) P (Exit.then K (fun _ _ _ => False)) { tmps := (ps.zip (encs x)).foldl (fun t (p, v) => t.setIfInBounds p v) a.tmps, defers := [] } W)
    (hbody : ∀ (l : Nat) (pre : List α) (x : α) (W : World), w.heap.size ≤ l → I pre W → Px pre x W → body.wpIn (F.inRound l) (n - 1 - 1) P (bothPost w.heap.size Kb I Ix (pre ++ [x]) W) (a₁ x) W)
    (hdone : ∀ (D : Nat) (xs : List α) (W : World), w.heap.size ≤ D → S xs → I xs W → W.heap[D]? = some (.deferred (some [])) → Q .normal { a with defers := { target := .collected D, args := #[] } :: a.defers } W)
    (hstop : ∀ (D : Nat) (c : Code) (pre : List α) (W : World), w.heap.size ≤ D → Ix c pre W → W.heap[D]? = some (.deferred (some [])) → c.wpIn F n P Q { a with defers := { target := .collected D, args := #[] } :: a.defers } W) :
    (Code.rangeFunc g ps assign body).wpIn F n P Q a w := by
  refine wpIn_rangeFunc fun fn hfn => ?_
  rw [hro]
  let R : LoopState → Option Code → Loop := fun st pe => { state := st, pending := pe, fn := fn, tmps := a.tmps, params := ps, assign := assign, body := body, defers := w.heap.size }
  let D := w.heap.size
  let L := w.heap.size + 1
  let W0 := (w.alloc (.deferred (some []))).alloc (.loop (R .ready none))
  have hD0 : W0.heap[D]? = some (.deferred (some [])) := (Below.heap_alloc _ _ _ (by simp [D])).trans (World.alloc_heap_new w _)
  have hL0 : W0.heap[L]? = some (.loop (R .ready none)) := by
    have := World.alloc_heap_new (w.alloc (.deferred (some []))) (.loop (R .ready none))
    rwa [World.size_alloc] at this
  have hB0 : Below w.heap.size w W0 := ((Below.refl _ w).alloc (Nat.le_refl _) _).alloc (by simp) _
  have hI0 : I [] W0 := hI.alloc _ (hI.alloc _ h0)
  have nL : ¬ Kb L := fun h => by have := hKb _ h; omega
  refine ⟨L, [{ target := .collected D, args := #[] }], W0, { target := .fn (.func gf) lb, args := #[.func (.yield L) #[] #[]] }, W0, gf, #[.func (.yield L) #[] #[]] ++ lb, W0, run_enterLoop_outer _ _ _ _ _, ?_, ?_, ?_, fun _ => h1, ?_⟩
  · simp only [resolve, hg]
    simp [go_sem]
  · intro f' hf'
    simp [Target.leads] at hf'
    exact hf' ▸ hFg
  · simp [invoke, go_sem, eg]
  · let J : List α → World → Prop := fun pre W => I pre W ∧ W.heap[L]? = some (.loop (R .ready none)) ∧ W.heap[D]? = some (.deferred (some []))
    let Jx : List α → World → Prop := fun pre W => ∃ c, Ix c pre W ∧ W.heap[L]? = some (.loop (R .done (some c))) ∧ W.heap[D]? = some (.deferred (some []))
    have lt_of : ∀ {W : World} {k : Nat} {o : Obj}, W.heap[k]? = some o → k < W.heap.size := fun h => (Array.getElem?_eq_some_iff.1 h).1
    have hJg : ∀ s X Y, J s X → X.grownBy Y none → J s Y := fun s X Y hs hgr =>
      ⟨hI s X Y none hs.1 hgr (by simp), (hgr.block _ (lt_of hs.2.1) (by simp)).trans hs.2.1, (hgr.block _ (lt_of hs.2.2) (by simp)).trans hs.2.2⟩
    have hJxg : ∀ s X Y, Jx s X → X.grownBy Y none → Jx s Y := fun s X Y ⟨c, hs⟩ hgr =>
      ⟨c, hIx c s X Y none hs.1 hgr (by simp), (hgr.block _ (lt_of hs.2.1) (by simp)).trans hs.2.1, (hgr.block _ (lt_of hs.2.2) (by simp)).trans hs.2.2⟩
    have round : ∀ pre x W1, J pre W1 → Px pre x W1 → YieldAt F (n - 1 - 1) P L (encs x) W1 fun e W' => (e = .returned (.bool true) ∧ J (pre ++ [x]) W' ∧ Keep Kb W1 W') ∨ (e = .returned (.bool false) ∧ Jx (pre ++ [x]) W') := by
      intro pre x W1 hJ hx
      refine ⟨fn, _, assign, body, run_yield hJ.2.1 (hps x), roundIn_of_wpIn hfn (hassign L x W1 _ ⟨_, run_beginRound hJ.2.1 rfl, ?_⟩)⟩
      have hLlt := lt_of hJ.2.1
      refine wpIn_mono (hbody L pre x _ (by omega) (hI.putObj _ hJ.1 (by omega) hJ.2.1 rfl) ((hPx pre x).putObj (s := ()) _ hx (by omega) hJ.2.1 rfl)) ?_
      have fin : ∀ (jump : Option Code) (W3 : World), KeepsFrom w.heap.size (W1.putObj L (.loop { R .ready none with state := .busy })) W3 →
          (Instr.endRound L jump).run P W3 = .ok (.bool jump.isNone) (W3.putObj L (.loop (R (if jump.isNone then .ready else .done) jump))) ∧
          (W3.putObj L (.loop (R (if jump.isNone then .ready else .done) jump))).heap[L]? = some (.loop (R (if jump.isNone then .ready else .done) jump)) ∧
          (W3.putObj L (.loop (R (if jump.isNone then .ready else .done) jump))).heap[D]? = some (.deferred (some [])) ∧
          W3.heap[L]? = some (.loop (R .busy none)) := fun jump W3 hk3 => by
        have hL3 : W3.heap[L]? = some (.loop (R .busy none)) := hk3.same L (.loop (R .busy none)) (by omega) (World.putObj_heap_same hLlt) rfl
        have hD3 := hk3.same D (.deferred (some [])) (Nat.le_refl _) ((World.putObj_heap_other (by omega)).trans hJ.2.2) rfl
        exact ⟨run_endRound jump hL3, World.putObj_heap_same (lt_of hL3), (World.putObj_heap_other (by omega)).trans hD3, hL3⟩
      rintro e a3 W3 hp
      cases e with
      | normal =>
        obtain ⟨hkf, hkb, hi3⟩ := hp
        obtain ⟨hr, hl4, hd4, hL3⟩ := fin none W3 hkf
        exact ⟨_, _, hr, .inl ⟨rfl, ⟨hI.putObj _ hi3 (by omega) hL3 rfl, hl4, hd4⟩, ((Keep.put _ nL).trans hkb).trans (Keep.put _ nL)⟩⟩
      | ret =>
        obtain ⟨hkf, hi3⟩ := hp
        obtain ⟨hr, hl4, hd4, hL3⟩ := fin (some .ret) W3 hkf
        exact ⟨_, _, hr, .inr ⟨rfl, ⟨.ret, (hIx _).putObj _ hi3 (by omega) hL3 rfl, hl4, hd4⟩⟩⟩
      | exit id =>
        obtain ⟨hkf, hi3⟩ := hp
        obtain ⟨hr, hl4, hd4, hL3⟩ := fin (some (.exit id)) W3 hkf
        exact ⟨_, _, hr, .inr ⟨rfl, ⟨.exit id, (hIx _).putObj _ hi3 (by omega) hL3 rfl, hl4, hd4⟩⟩⟩
      | goto t => exact hp.elim
      | panic ch => exact hp.elim
      | outgrown => exact hp.elim
    refine (hit L J Jx W0 hB0 hJg hJxg round ⟨hI0, hL0, hD0⟩).mono ?_
    rintro e W2 ⟨⟨v, rfl⟩, (⟨xs, hS, hi, hL, hD⟩ | ⟨pre, c, hi, hL, hD⟩)⟩
    · exact ⟨none, _, run_endLoop hL (by simp [R]), hdone D xs _ (Nat.le_refl _) hS (hI.putObj _ hi (by omega) hL rfl) ((World.putObj_heap_other (by omega)).trans hD)⟩
    · exact ⟨some c, _, run_endLoop hL (by simp [R]), hstop D c pre _ (Nat.le_refl _) ((hIx c).putObj _ hi (by omega) hL rfl) ((World.putObj_heap_other (by omega)).trans hD)⟩

end Go.Proofs.YtdjodigimhgklaaGreatDoor
