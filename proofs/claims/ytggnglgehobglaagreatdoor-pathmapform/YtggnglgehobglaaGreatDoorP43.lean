import Derived.RangeFuncNested
import Derived.RangeFuncBound
import Derived.RangeFuncCalls
import Derived.RangeFuncLeaves
import Derived.RangeFuncWrites
import Derived.Test.YtggnglgehobglaaGreatDoorP42
/- A range over a function that goes through a text (it keeps a walk of its own), whose body owns cells and may leave it. Of no program; no law of the library says it. -/
namespace Go.Proofs.YtggnglgehobglaaGreatDoor
open Go.RowKit Go.Shelf

def TellsW {α : Type} (F : Fence) (n : Nat) (P : Program) (gf : Nat) (lb : Array Value) (encs : α → Array Value) (B : Nat) (S Sp : List α → Prop) (w : World) : Prop :=
  ∀ (l : Nat) (J Jx : List α → World → Prop) (W : World), Below w.heap.size w W → AbidesFrom W.heap.size J →
    (∀ pre x W1, J pre W1 → Sp (pre ++ [x]) → YieldAt F (n - 1) P l (encs x) W1 fun e W' => (e = .returned (.bool true) ∧ J (pre ++ [x]) W' ∧ KpL B W1 W') ∨ (e = .returned (.bool false) ∧ Jx (pre ++ [x]) W')) →
    J [] W → CallsIn F n P gf (#[.func (.yield l) #[] #[]] ++ lb) W fun e W' => (∃ v, e = .returned v) ∧ ((∃ xs, S xs ∧ J xs W') ∨ (∃ pre, Sp pre ∧ Jx pre W'))

/-- how a round may be left -/
def walkPost {α : Type} (B : Nat) (I : List α → World → Prop) (Ix : Code → List α → World → Prop) (xs : List α) (W : World) : Exit → Act → World → Prop
  | .normal, _, W' => KeepsOthers W W' ∧ W'.heap[B]? = W.heap[B]? ∧ I xs W'
  | .ret, _, W' => KeepsOthers W W' ∧ Ix .ret xs W'
  | .exit id, _, W' => KeepsOthers W W' ∧ Ix (.exit id) xs W'
  | _, _, _ => False

theorem others_walks {W W' : World} (h : KeepsOthers W W') : KeepsWalks W W' := ⟨h.size, fun k o hk ho => h.same k o hk (by cases o <;> first | rfl | cases ho)⟩

theorem range_walks {α : Type} {F : Fence} {n : Nat} {P : Program} {g : Operand} {ps : Array Tmp} {assign body : Code} {Q : Exit → Act → World → Prop} {a : Act} {w : World}
    (hro : F.round = none) (h1 : 1 ≤ n) {gf : Nat} {lb : Array Value} (hg : a.eval g = .func (.func gf) #[] lb) (hFg : F.fn gf) (eg : ∀ args w, (callFunc gf args).run P w = .ok (.enter gf args) w)
    {encs : α → Array Value} {B : Nat} {S Sp : List α → Prop} (hit : TellsW F (n - 1) P gf lb encs B S Sp w) (hps : ∀ x, (encs x).size = ps.size) (hB : B < w.heap.size)
    (I : List α → World → Prop) (Ix : Code → List α → World → Prop) (hI : OwnFrom w.heap.size I) (hIx : ∀ c, OwnFrom w.heap.size (Ix c)) (h0 : I [] w) (a₁ : α → Act)
    (hassign : ∀ (l : Nat) (x : α) (W : World) (K : Act → World → Prop), K (a₁ x) W →
      assign.wpIn (F.inRound l) (n - 1 - 1) P (Exit.then K (fun _ _ _ => False)) { tmps := (ps.zip (encs x)).foldl (fun t (p, v) => t.setIfInBounds p v) a.tmps, defers := [] } W)
    (hbody : ∀ (l : Nat) (pre : List α) (x : α) (W : World), w.heap.size ≤ l → I pre W → Sp (pre ++ [x]) → body.wpIn (F.inRound l) (n - 1 - 1) P (walkPost B I Ix (pre ++ [x]) W) (a₁ x) W)
    (hdone : ∀ (D : Nat) (xs : List α) (W : World), w.heap.size ≤ D → S xs → I xs W → W.heap[D]? = some (.deferred (some [])) → Q .normal { a with defers := { target := .collected D, args := #[] } :: a.defers } W)
    (hstop : ∀ (D : Nat) (c : Code) (pre : List α) (W : World), w.heap.size ≤ D → Sp pre → Ix c pre W → W.heap[D]? = some (.deferred (some [])) → c.wpIn F n P Q { a with defers := { target := .collected D, args := #[] } :: a.defers } W) :
    (Code.rangeFunc g ps assign body).wpIn F n P Q a w := by
  refine wpIn_rangeFunc fun fn hfn => ?_
  rw [hro]
  let R : LoopState → Option Code → Loop := fun st pe => { state := st, pending := pe, fn := fn, tmps := a.tmps, params := ps, assign := assign, body := body, defers := w.heap.size }
  let D := w.heap.size
  let L := w.heap.size + 1
  let W0 := (w.alloc (.deferred (some []))).alloc (.loop (R .ready none))
  have hD0 : W0.heap[D]? = some (.deferred (some [])) := (Below.heap_alloc _ _ _ (by simp [D])).trans (World.alloc_heap_new w _)
  have hL0 : W0.heap[L]? = some (.loop (R .ready none)) := by
    have := World.alloc_heap_new (w.alloc (.deferred (some []))) (.loop (R .ready none))
    rwa [World.size_alloc] at this
  have hB0 : Below w.heap.size w W0 := ((Below.refl _ w).alloc (Nat.le_refl _) _).alloc (by simp) _
  have hs0 : W0.heap.size = w.heap.size + 2 := by simp [W0]
  have hI0 : I [] W0 := hI.alloc _ (hI.alloc _ h0)
  refine ⟨L, [{ target := .collected D, args := #[] }], W0, { target := .fn (.func gf) lb, args := #[.func (.yield L) #[] #[]] }, W0, gf, #[.func (.yield L) #[] #[]] ++ lb, W0, run_enterLoop_outer _ _ _ _ _, ?_, ?_, ?_, fun _ => h1, ?_⟩
  · simp only [resolve, hg]
    simp [go_sem]
  · intro f' hf'
    simp [Target.leads] at hf'
    exact hf' ▸ hFg
  · simp [invoke, go_sem, eg]
  · let J : List α → World → Prop := fun pre W => I pre W ∧ W.heap[L]? = some (.loop (R .ready none)) ∧ W.heap[D]? = some (.deferred (some []))
    let Jx : List α → World → Prop := fun pre W => ∃ c, Ix c pre W ∧ W.heap[L]? = some (.loop (R .done (some c))) ∧ W.heap[D]? = some (.deferred (some []))
    have lt_of : ∀ {W : World} {k : Nat} {o : Obj}, W.heap[k]? = some o → k < W.heap.size := fun h => (Array.getElem?_eq_some_iff.1 h).1
    have hJg : AbidesFrom W0.heap.size J := fun s X Y row hs hgr hr =>
      ⟨hI s X Y row hs.1 hgr (fun r e => by
        obtain ⟨hb, o, ho, hw⟩ := hr r e
        exact ⟨by omega, o, ho, by cases o <;> first | rfl | cases hw⟩), (hgr.block _ (lt_of hs.2.1) (fun e => by have := (hr L e.symm).1; omega)).trans hs.2.1, (hgr.block _ (lt_of hs.2.2) (fun e => by have := (hr D e.symm).1; omega)).trans hs.2.2⟩
    have hBL : B ≠ L := by omega
    have round : ∀ pre x W1, J pre W1 → Sp (pre ++ [x]) → YieldAt F (n - 1 - 1) P L (encs x) W1 fun e W' => (e = .returned (.bool true) ∧ J (pre ++ [x]) W' ∧ KpL B W1 W') ∨ (e = .returned (.bool false) ∧ Jx (pre ++ [x]) W') := by
      intro pre x W1 hJ hx
      refine ⟨fn, _, assign, body, run_yield hJ.2.1 (hps x), roundIn_of_wpIn hfn (hassign L x W1 _ ⟨_, run_beginRound hJ.2.1 rfl, ?_⟩)⟩
      have hLlt := lt_of hJ.2.1
      refine wpIn_mono (hbody L pre x _ (by omega) (hI.putObj _ hJ.1 (by omega) hJ.2.1 rfl) hx) ?_
      have fin : ∀ (jump : Option Code) (W3 : World), KeepsOthers (W1.putObj L (.loop { R .ready none with state := .busy })) W3 →
          (Instr.endRound L jump).run P W3 = .ok (.bool jump.isNone) (W3.putObj L (.loop (R (if jump.isNone then .ready else .done) jump))) ∧
          (W3.putObj L (.loop (R (if jump.isNone then .ready else .done) jump))).heap[L]? = some (.loop (R (if jump.isNone then .ready else .done) jump)) ∧
          (W3.putObj L (.loop (R (if jump.isNone then .ready else .done) jump))).heap[D]? = some (.deferred (some [])) ∧
          W3.heap[L]? = some (.loop (R .busy none)) := fun jump W3 hk3 => by
        have hL3 : W3.heap[L]? = some (.loop (R .busy none)) := hk3.same L (.loop (R .busy none)) (World.putObj_heap_same hLlt) rfl
        have hD3 := hk3.same D (.deferred (some [])) ((World.putObj_heap_other (by omega)).trans hJ.2.2) rfl
        exact ⟨run_endRound jump hL3, World.putObj_heap_same (lt_of hL3), (World.putObj_heap_other (by omega)).trans hD3, hL3⟩
      rintro e a3 W3 hp
      cases e with
      | normal =>
        obtain ⟨hkf, hkb, hi3⟩ := hp
        obtain ⟨hr, hl4, hd4, hL3⟩ := fin none W3 hkf
        refine ⟨_, _, hr, .inl ⟨rfl, ⟨hI.putObj _ hi3 (by omega) hL3 rfl, hl4, hd4⟩, ?_⟩⟩
        refine ⟨((KeepsWalks.putObj _ hJ.2.1 rfl).trans (others_walks hkf)).trans (KeepsWalks.putObj _ hL3 rfl), ?_⟩
        rw [World.putObj_heap_other hBL, hkb, World.putObj_heap_other hBL]
      | ret =>
        obtain ⟨hkf, hi3⟩ := hp
        obtain ⟨hr, hl4, hd4, hL3⟩ := fin (some .ret) W3 hkf
        exact ⟨_, _, hr, .inr ⟨rfl, ⟨.ret, (hIx _).putObj _ hi3 (by omega) hL3 rfl, hl4, hd4⟩⟩⟩
      | exit id =>
        obtain ⟨hkf, hi3⟩ := hp
        obtain ⟨hr, hl4, hd4, hL3⟩ := fin (some (.exit id)) W3 hkf
        exact ⟨_, _, hr, .inr ⟨rfl, ⟨.exit id, (hIx _).putObj _ hi3 (by omega) hL3 rfl, hl4, hd4⟩⟩⟩
      | goto t => exact hp.elim
      | panic ch => exact hp.elim
      | outgrown => exact hp.elim
    refine (hit L J Jx W0 hB0 hJg round ⟨hI0, hL0, hD0⟩).mono ?_
    rintro e W2 ⟨⟨v, rfl⟩, (⟨xs, hS, hi, hL, hD⟩ | ⟨pre, hSp, c, hi, hL, hD⟩)⟩
    · exact ⟨none, _, run_endLoop hL (by simp [R]), hdone D xs _ (Nat.le_refl _) hS (hI.putObj _ hi (by omega) hL rfl) ((World.putObj_heap_other (by omega)).trans hD)⟩
    · exact ⟨some c, _, run_endLoop hL (by simp [R]), hstop D c pre _ (Nat.le_refl _) hSp ((hIx c).putObj _ hi (by omega) hL rfl) ((World.putObj_heap_other (by omega)).trans hD)⟩

theorem lines_tellsW (s : ByteArray) (hs : s.size ≤ maxLen) (w : World) (B : Nat) (hB : Boxed w B 9 (.string s)) (n : Nat) (hn : 1 ≤ n) :
    TellsW Fence.wide n Tryz.prog 69 #[.pointer (some ⟨B, 0, none⟩)] (Ln.encs (s := s)) B (fun xs => xs.map Ln.at = nums 0 (linesL (bs s))) (fun pre => ∃ rest, pre.map Ln.at ++ rest = nums 0 (linesL (bs s))) w := by
  intro l J Jx W hW hJ hY h0
  exact lines_told s hs w B hB n hn l J Jx W hW hJ hY h0
end Go.Proofs.YtggnglgehobglaaGreatDoor
