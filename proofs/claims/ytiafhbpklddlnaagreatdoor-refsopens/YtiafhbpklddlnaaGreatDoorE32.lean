import Derived.Test.YtiafhbpklddlnaaGreatDoorE26
import Derived.Test.YtiafhbpklddlnaaGreatDoorE01
import Derived.Shelf.SlIter.Nil
import Derived.Shelf.SortM.Plain
import Derived.Shelf.SortM.SortNone
import Derived.Test.YtiafhbpklddlnaaGreatDoorProg
/- A range over a function where the iterator lays blocks of its own and the body has blocks of its own: each side's blocks stay as they are while the other goes on. Of no program; no law of the library says it. -/
namespace Go.Proofs.YtiafhbpklddlnaaGreatDoor
open Go.RowKit Go.Shelf

/-- what speaks of the blocks f alone: it abides whatever is done to others -/
def Apart {β : Type} (J : β → (Nat → Prop) → World → Prop) : Prop := (∀ s f X Y, J s f X → Turn (fun k => ¬ f k) X Y → J s f Y) ∧ ∀ s f X, J s f X → ∀ k, f k → k < X.heap.size

/-- the iterator's word: whatever the loop's body, it goes on, or leaves; it writes to nothing but its own blocks -/
def TellsO {α : Type} (F : Fence) (n m : Nat) (P : Program) (gf : Nat) (lb : Array Value) (encs : α → Array Value) (Px : List α → α → World → Prop) (Kb : Nat → Prop) (S : List α → Prop) (w : World) : Prop :=
  ∀ (l : Nat) (J Jx : List α → (Nat → Prop) → World → Prop) (f0 : Nat → Prop) (W : World), Below w.heap.size w W → l < W.heap.size → ¬ Kb l → Apart J → Apart Jx → (∀ k, f0 k → ¬ Kb k) →
    (∀ pre x f W1, J pre f W1 → W.heap.size ≤ W1.heap.size → Px pre x W1 → YieldAt F m P l (encs x) W1 fun e W' => ∃ f', (∀ k, f' k → f k ∨ W1.heap.size ≤ k) ∧ Turn (fun k => f k ∨ k = l) W1 W' ∧ ((e = .returned (.bool true) ∧ J (pre ++ [x]) f' W') ∨ (e = .returned (.bool false) ∧ Jx (pre ++ [x]) f' W'))) →
    J [] f0 W → CallsIn F n P gf (#[.func (.yield l) #[] #[]] ++ lb) W fun e W' => (∃ v, e = .returned v) ∧ ∃ f', (∀ k, f' k → f0 k ∨ W.heap.size ≤ k) ∧ Turn (fun k => f0 k ∨ k = l) W W' ∧ ((∃ xs, S xs ∧ J xs f' W') ∨ ∃ pre, Jx pre f' W')

/-- how a round may be left -/
def ownPost {α : Type} (I : List α → (Nat → Prop) → World → Prop) (Ix : Code → List α → (Nat → Prop) → World → Prop) (f : Nat → Prop) (xs : List α) (W : World) : Exit → Act → World → Prop
  | .normal, _, W' => ∃ f', (∀ k, f' k → f k ∨ W.heap.size ≤ k) ∧ Turn f W W' ∧ I xs f' W'
  | .ret, _, W' => ∃ f', (∀ k, f' k → f k ∨ W.heap.size ≤ k) ∧ Turn f W W' ∧ Ix .ret xs f' W'
  | .exit id, _, W' => ∃ f', (∀ k, f' k → f k ∨ W.heap.size ≤ k) ∧ Turn f W W' ∧ Ix (.exit id) xs f' W'
  | _, _, _ => False

theorem turn_putObj (W : World) (l : Nat) (o : Obj) : Turn (fun k => k = l) W (W.putObj l o) := ⟨rfl, rfl, rfl, by simp, fun k _ hk => World.putObj_heap_other (fun e => hk e)⟩

theorem range_owns {α : Type} {F : Fence} {n m : Nat} {P : Program} {g : Operand} {ps : Array Tmp} {assign body : Code} {Q : Exit → Act → World → Prop} {a : Act} {w : World}
    (hro : F.round = none) (h1 : 1 ≤ n) {gf : Nat} {lb : Array Value} (hg : a.eval g = .func (.func gf) #[] lb) (hFg : F.fn gf) (eg : ∀ args w, (callFunc gf args).run P w = .ok (.enter gf args) w)
    {encs : α → Array Value} {Px : List α → α → World → Prop} {Kb : Nat → Prop} {S : List α → Prop} (hit : TellsO F (n - 1) m P gf lb encs Px Kb S w) (hps : ∀ x, (encs x).size = ps.size) (hKb : ∀ k, Kb k → k < w.heap.size)
    (I : List α → (Nat → Prop) → World → Prop) (Ix : Code → List α → (Nat → Prop) → World → Prop) (hI : Apart I) (hIx : ∀ c, Apart (Ix c)) (hPx : ∀ pre x W l o, Px pre x W → w.heap.size ≤ l → Px pre x (W.putObj l o)) (f0 : Nat → Prop) (hf0 : ∀ k, f0 k → ¬ Kb k) (h0 : I [] f0 w) (a₁ : α → Act)
    (hassign : ∀ (l : Nat) (x : α) (W : World) (K : Act → World → Prop), K (a₁ x) W →
      assign.wpIn (F.inRound l) m P (Exit.then K (fun _ _ _ => False)) { tmps := (ps.zip (encs x)).foldl (fun t (p, v) => t.setIfInBounds p v) a.tmps, defers := [] } W)
    (hbody : ∀ (l : Nat) (pre : List α) (x : α) (f : Nat → Prop) (W : World), w.heap.size ≤ W.heap.size → I pre f W → Px pre x W → body.wpIn (F.inRound l) m P (ownPost I Ix f (pre ++ [x]) W) (a₁ x) W)
    (hdone : ∀ (D : Nat) (xs : List α) (f : Nat → Prop) (W : World), w.heap.size ≤ D → S xs → I xs f W → (∀ k, f k → f0 k ∨ w.heap.size ≤ k) → ¬ f D → Turn f0 w W → W.heap[D]? = some (.deferred (some [])) → Q .normal { a with defers := { target := .collected D, args := #[] } :: a.defers } W)
    (hstop : ∀ (D : Nat) (c : Code) (pre : List α) (f : Nat → Prop) (W : World), w.heap.size ≤ D → Ix c pre f W → (∀ k, f k → f0 k ∨ w.heap.size ≤ k) → ¬ f D → Turn f0 w W → W.heap[D]? = some (.deferred (some [])) → c.wpIn F n P Q { a with defers := { target := .collected D, args := #[] } :: a.defers } W) :
    (Code.rangeFunc g ps assign body).wpIn F n P Q a w := by
  refine wpIn_rangeFunc fun fn hfn => ?_
  rw [hro]
  let R : LoopState → Option Code → Loop := fun st pe => { state := st, pending := pe, fn := fn, tmps := a.tmps, params := ps, assign := assign, body := body, defers := w.heap.size }
  let D := w.heap.size
  let L := w.heap.size + 1
  let W0 := (w.alloc (.deferred (some []))).alloc (.loop (R .ready none))
  have hD0 : W0.heap[D]? = some (.deferred (some [])) := (Below.heap_alloc _ _ _ (by simp [D])).trans (World.alloc_heap_new w _)
  have hL0 : W0.heap[L]? = some (.loop (R .ready none)) := by
    have := World.alloc_heap_new (w.alloc (.deferred (some []))) (.loop (R .ready none))
    rwa [World.size_alloc] at this
  have hB0 : Below w.heap.size w W0 := ((Below.refl _ w).alloc (Nat.le_refl _) _).alloc (by simp) _
  have hs0 : W0.heap.size = w.heap.size + 2 := by simp [W0]
  have hlt0 := hI.2 _ _ _ h0
  have hI0 : I [] f0 W0 := hI.1 _ _ _ _ h0 (Turn.of_below _ hB0)
  have nL : ¬ Kb L := fun h => by have := hKb _ h; omega
  refine ⟨L, [{ target := .collected D, args := #[] }], W0, { target := .fn (.func gf) lb, args := #[.func (.yield L) #[] #[]] }, W0, gf, #[.func (.yield L) #[] #[]] ++ lb, W0, run_enterLoop_outer _ _ _ _ _, ?_, ?_, ?_, fun _ => h1, ?_⟩
  · simp only [resolve, hg]
    simp [go_sem]
  · intro f' hf'
    simp [Target.leads] at hf'
    exact hf' ▸ hFg
  · simp [invoke, go_sem, eg]
  · let J : List α → (Nat → Prop) → World → Prop := fun pre f W => ∃ f1, I pre f1 W ∧ ¬ f1 L ∧ ¬ f1 D ∧ W.heap[L]? = some (.loop (R .ready none)) ∧ W.heap[D]? = some (.deferred (some [])) ∧ ∀ k, f k ↔ (f1 k ∨ k = L ∨ k = D)
    let Jx : List α → (Nat → Prop) → World → Prop := fun pre f W => ∃ c f1, Ix c pre f1 W ∧ ¬ f1 L ∧ ¬ f1 D ∧ W.heap[L]? = some (.loop (R .done (some c))) ∧ W.heap[D]? = some (.deferred (some [])) ∧ ∀ k, f k ↔ (f1 k ∨ k = L ∨ k = D)
    have lt_of : ∀ {W : World} {k : Nat} {o : Obj}, W.heap[k]? = some o → k < W.heap.size := fun h => (Array.getElem?_eq_some_iff.1 h).1
    have hJa : Apart J := by
      refine ⟨fun s f X Y ⟨f1, h1, h2, h3, h4, h5, h6⟩ ht => ⟨f1, hI.1 _ _ _ _ h1 (ht.wide (fun k hk hf => hk ((h6 k).2 (.inl hf)))), h2, h3, (ht.block L (lt_of h4) (fun h => h ((h6 L).2 (.inr (.inl rfl))))).trans h4, (ht.block D (lt_of h5) (fun h => h ((h6 D).2 (.inr (.inr rfl))))).trans h5, h6⟩, fun s f X ⟨f1, h1, h2, h3, h4, h5, h6⟩ k hk => ?_⟩
      rcases (h6 k).1 hk with h | rfl | rfl
      · exact hI.2 _ _ _ h1 k h
      · exact lt_of h4
      · exact lt_of h5
    have hJxa : Apart Jx := by
      refine ⟨fun s f X Y ⟨c, f1, h1, h2, h3, h4, h5, h6⟩ ht => ⟨c, f1, (hIx c).1 _ _ _ _ h1 (ht.wide (fun k hk hf => hk ((h6 k).2 (.inl hf)))), h2, h3, (ht.block L (lt_of h4) (fun h => h ((h6 L).2 (.inr (.inl rfl))))).trans h4, (ht.block D (lt_of h5) (fun h => h ((h6 D).2 (.inr (.inr rfl))))).trans h5, h6⟩, fun s f X ⟨c, f1, h1, h2, h3, h4, h5, h6⟩ k hk => ?_⟩
      rcases (h6 k).1 hk with h | rfl | rfl
      · exact (hIx c).2 _ _ _ h1 k h
      · exact lt_of h4
      · exact lt_of h5
    have round : ∀ pre x f W1, J pre f W1 → W0.heap.size ≤ W1.heap.size → Px pre x W1 → YieldAt F m P L (encs x) W1 fun e W' => ∃ f', (∀ k, f' k → f k ∨ W1.heap.size ≤ k) ∧ Turn (fun k => f k ∨ k = L) W1 W' ∧ ((e = .returned (.bool true) ∧ J (pre ++ [x]) f' W') ∨ (e = .returned (.bool false) ∧ Jx (pre ++ [x]) f' W')) := by
      rintro pre x f W1 ⟨f1, hi, hnL, hnD, hL, hD, hf⟩ hsz hx
      refine ⟨fn, _, assign, body, run_yield hL (hps x), roundIn_of_wpIn hfn (hassign L x W1 _ ⟨_, run_beginRound hL rfl, ?_⟩)⟩
      have hLlt := lt_of hL
      have hDlt := lt_of hD
      have hsp : (W1.putObj L (.loop { R .ready none with state := .busy })).heap.size = W1.heap.size := by simp
      refine wpIn_mono (hbody L pre x f1 _ (by rw [hsp]; omega) (hI.1 _ _ _ _ hi ((turn_putObj W1 L _).wide (fun k hk => hk ▸ hnL))) (hPx pre x W1 L _ hx (by omega))) ?_
      have fin : ∀ (jump : Option Code) (f' : Nat → Prop) (W3 : World), (∀ k, f' k → f1 k ∨ (W1.putObj L (.loop { R .ready none with state := .busy })).heap.size ≤ k) → Turn f1 (W1.putObj L (.loop { R .ready none with state := .busy })) W3 →
          (Instr.endRound L jump).run P W3 = .ok (.bool jump.isNone) (W3.putObj L (.loop (R (if jump.isNone then .ready else .done) jump))) ∧
          (W3.putObj L (.loop (R (if jump.isNone then .ready else .done) jump))).heap[L]? = some (.loop (R (if jump.isNone then .ready else .done) jump)) ∧
          (W3.putObj L (.loop (R (if jump.isNone then .ready else .done) jump))).heap[D]? = some (.deferred (some [])) ∧
          ¬ f' L ∧ ¬ f' D ∧ Turn (fun k => f k ∨ k = L) W1 (W3.putObj L (.loop (R (if jump.isNone then .ready else .done) jump))) ∧ Turn (fun k => ¬ f' k) W3 (W3.putObj L (.loop (R (if jump.isNone then .ready else .done) jump))) := fun jump f' W3 hf' ht => by
        have hL3 : W3.heap[L]? = some (.loop (R .busy none)) := (ht.block L (by rw [hsp]; exact hLlt) hnL).trans (World.putObj_heap_same hLlt)
        have hD3 : W3.heap[D]? = some (.deferred (some [])) := (ht.block D (by rw [hsp]; exact hDlt) hnD).trans ((World.putObj_heap_other (by omega)).trans hD)
        have n1 : ¬ f' L := fun h => (hf' L h).elim hnL (fun e => by rw [hsp] at e; omega)
        have n2 : ¬ f' D := fun h => (hf' D h).elim hnD (fun e => by rw [hsp] at e; omega)
        refine ⟨run_endRound jump hL3, World.putObj_heap_same (lt_of hL3), (World.putObj_heap_other (by omega)).trans hD3, n1, n2, ?_, (turn_putObj W3 L _).wide (fun k hk => hk ▸ n1)⟩
        exact (((turn_putObj W1 L (.loop { R .ready none with state := .busy })).wide (fun k hk => .inr hk)).trans ht (fun k _ hk => .inl ((hf k).2 (.inl hk)))).trans (turn_putObj W3 L _) (fun k _ hk => .inr hk)
      have wid : ∀ (f' : Nat → Prop), (∀ k, f' k → f1 k ∨ (W1.putObj L (.loop { R .ready none with state := .busy })).heap.size ≤ k) → ∀ k, (f' k ∨ k = L ∨ k = D) → f k ∨ W1.heap.size ≤ k := fun f' h k hk => by
        rcases hk with hk | hk | hk
        · rcases h k hk with e | e
          · exact .inl ((hf k).2 (.inl e))
          · rw [hsp] at e; exact .inr e
        · exact .inl ((hf k).2 (.inr (.inl hk)))
        · exact .inl ((hf k).2 (.inr (.inr hk)))
      rintro e a3 W3 hp
      cases e with
      | normal =>
        obtain ⟨f', hf', ht, hi3⟩ := hp
        obtain ⟨hr, hl4, hd4, n1, n2, t1, t2⟩ := fin none f' W3 hf' ht
        exact ⟨_, _, hr, fun k => f' k ∨ k = L ∨ k = D, wid f' hf', t1, .inl ⟨rfl, f', hI.1 _ _ _ _ hi3 t2, n1, n2, hl4, hd4, fun _ => Iff.rfl⟩⟩
      | ret =>
        obtain ⟨f', hf', ht, hi3⟩ := hp
        obtain ⟨hr, hl4, hd4, n1, n2, t1, t2⟩ := fin (some .ret) f' W3 hf' ht
        exact ⟨_, _, hr, fun k => f' k ∨ k = L ∨ k = D, wid f' hf', t1, .inr ⟨rfl, .ret, f', (hIx _).1 _ _ _ _ hi3 t2, n1, n2, hl4, hd4, fun _ => Iff.rfl⟩⟩
      | exit id =>
        obtain ⟨f', hf', ht, hi3⟩ := hp
        obtain ⟨hr, hl4, hd4, n1, n2, t1, t2⟩ := fin (some (.exit id)) f' W3 hf' ht
        exact ⟨_, _, hr, fun k => f' k ∨ k = L ∨ k = D, wid f' hf', t1, .inr ⟨rfl, .exit id, f', (hIx _).1 _ _ _ _ hi3 t2, n1, n2, hl4, hd4, fun _ => Iff.rfl⟩⟩
      | goto t => exact hp.elim
      | panic ch => exact hp.elim
      | outgrown => exact hp.elim
    have nfL : ¬ f0 L := fun h => by have := hlt0 _ h; omega
    have nfD : ¬ f0 D := fun h => by have := hlt0 _ h; omega
    refine (hit L J Jx (fun k => f0 k ∨ k = L ∨ k = D) W0 hB0 (by omega) nL hJa hJxa (fun k hk hb => by
      rcases hk with h | rfl | rfl
      · exact hf0 k h hb
      · exact nL hb
      · have := hKb _ hb; omega) round ⟨f0, hI0, nfL, nfD, hL0, hD0, fun _ => Iff.rfl⟩).mono ?_
    have endT : ∀ (W2 : World) (o : Obj), Turn (fun k => (f0 k ∨ k = L ∨ k = D) ∨ k = L) W0 W2 → Turn f0 w (W2.putObj L o) := fun W2 o ht => by
      refine ⟨(ht.os.trans hB0.os), (ht.tape.trans hB0.tape), (ht.output.trans hB0.output), ?_, fun k hk hn => ?_⟩
      · have := ht.size; have := hB0.size; simp; omega
      · rw [World.putObj_heap_other (by omega), ht.block k (by omega) (fun h => by rcases h with (h | h | h) | h <;> first | exact hn h | omega), hB0.block k hk]
    have endF : ∀ (f' f1 : Nat → Prop), (∀ k, f' k → (f0 k ∨ k = L ∨ k = D) ∨ W0.heap.size ≤ k) → (∀ k, f' k ↔ (f1 k ∨ k = L ∨ k = D)) → ∀ k, f1 k → f0 k ∨ w.heap.size ≤ k := fun f' f1 hw hf k hk => by
      rcases hw k ((hf k).2 (.inl hk)) with (h | h | h) | h
      · exact .inl h
      · exact .inr (by omega)
      · exact .inr (by omega)
      · exact .inr (by omega)
    rintro e W2 ⟨⟨v, rfl⟩, f', hf', ht, (⟨xs, hS, f1, hi, hnL, hnD, hL, hD, hf⟩ | ⟨pre, c, f1, hi, hnL, hnD, hL, hD, hf⟩)⟩
    · exact ⟨none, _, run_endLoop hL (by simp [R]), hdone D xs f1 _ (Nat.le_refl _) hS (hI.1 _ _ _ _ hi ((turn_putObj W2 L _).wide (fun k hk => hk ▸ hnL))) (endF f' f1 hf' hf) hnD (endT W2 _ ht) ((World.putObj_heap_other (by omega)).trans hD)⟩
    · exact ⟨some c, _, run_endLoop hL (by simp [R]), hstop D c pre f1 _ (Nat.le_refl _) ((hIx c).1 _ _ _ _ hi ((turn_putObj W2 L _).wide (fun k hk => hk ▸ hnL))) (endF f' f1 hf' hf) hnD (endT W2 _ ht) ((World.putObj_heap_other (by omega)).trans hD)⟩

end Go.Proofs.YtiafhbpklddlnaaGreatDoor

/- The kit's contracts on the sorted names of a map, laid at this translation by the kit's own command, in plain words. -/
namespace Go.Proofs.YtiafhbpklddlnaaGreatDoor
open Go.RowKit Go.Maps Go.Sort Go.Shelf

def Tryz.keys66_ren : Go.Shelf.Ren := ⟨fun | 7 => 66 | 10 => 93 | n => n, fun | 23 => 63 | 26 => 9 | 3 => 36 | 28 => 119 | 0 => 0 | 27 => 118 | 33 => 88 | 4 => 4 | n => n, fun | n => n⟩
theorem Tryz.keys66 : Go.Proofs.SlLaysZ.n7 Tryz.prog Tryz.keys66_ren := {
  mixed := by kernel_rfl
  f7 := ⟨Tryz.f66.name, by decide, Tryz.func66.trans (congrArg some (by kernel_rfl))⟩
  f10 := ⟨Tryz.f93.name, by decide, Tryz.func93.trans (congrArg some (by kernel_rfl))⟩
  t0 := Tryz.underlying0
  a0 := Tryz.isAgg0
  z0 := Tryz.sizeOf0
  v0 := Tryz.zeroValue0
  t4 := Tryz.underlying4
  a4 := Tryz.isAgg4
  z4 := Tryz.sizeOf4
  v4 := Tryz.zeroValue4
  t23 := Tryz.underlying63
  a23 := Tryz.isAgg63
  z23 := Tryz.sizeOf63
  v23 := Tryz.zeroValue63
  t26 := Tryz.underlying9
  a26 := Tryz.isAgg9
  z26 := Tryz.sizeOf9
  v26 := Tryz.zeroValue9
  t27 := Tryz.underlying118
  a27 := Tryz.isAgg118
  z27 := Tryz.sizeOf118
  v27 := Tryz.zeroValue118
  t28 := Tryz.underlying119
  a28 := Tryz.isAgg119
  z28 := Tryz.sizeOf119
  v28 := Tryz.zeroValue119
  t33 := Tryz.underlying88
  a33 := Tryz.isAgg88
  z33 := Tryz.sizeOf88
  v33 := Tryz.zeroValue88 }
def Tryz.sorted65_ren : Go.Shelf.Ren := ⟨fun | 6 => 65 | 8 => 91 | 9 => 92 | 11 => 100 | 13 => 102 | 12 => 101 | 23 => 120 | 24 => 121 | 14 => 111 | 15 => 112 | 16 => 113 | 17 => 114 | 18 => 115 | 19 => 116 | 20 => 117 | 21 => 118 | 22 => 119 | 25 => 127 | 26 => 128 | 27 => 129 | 28 => 130 | 29 => 131 | 30 => 132 | 31 => 139 | n => n, fun | 26 => 9 | 28 => 119 | 24 => 47 | 0 => 0 | 3 => 3 | 37 => 126 | 48 => 166 | 50 => 35 | 4 => 4 | 40 => 160 | 39 => 159 | 45 => 137 | 5 => 5 | 9 => 9 | 51 => 171 | 55 => 174 | 57 => 177 | 58 => 178 | 33 => 88 | n => n, fun | n => n⟩
theorem Tryz.sorted65 : Go.Proofs.SlLaysZ.n6 Tryz.prog Tryz.sorted65_ren := {
  mixed := by kernel_rfl
  f6 := ⟨Tryz.f65.name, by decide, Tryz.func65.trans (congrArg some (by kernel_rfl))⟩
  f8 := ⟨Tryz.f91.name, by decide, Tryz.func91.trans (congrArg some (by kernel_rfl))⟩
  f11 := ⟨Tryz.f100.name, by decide, Tryz.func100.trans (congrArg some (by kernel_rfl))⟩
  t0 := Tryz.underlying0
  a0 := Tryz.isAgg0
  z0 := Tryz.sizeOf0
  v0 := Tryz.zeroValue0
  t24 := Tryz.underlying47
  a24 := Tryz.isAgg47
  z24 := Tryz.sizeOf47
  v24 := Tryz.zeroValue47
  t26 := Tryz.underlying9
  a26 := Tryz.isAgg9
  z26 := Tryz.sizeOf9
  v26 := Tryz.zeroValue9
  t28 := Tryz.underlying119
  a28 := Tryz.isAgg119
  z28 := Tryz.sizeOf119
  v28 := Tryz.zeroValue119
  i26 := by kernel_rfl }
def Tryz.sort92_ren : Go.Shelf.Ren := ⟨fun | 6 => 92 | 8 => 102 | 9 => 101 | 19 => 120 | 20 => 121 | 21 => 111 | 22 => 112 | 23 => 113 | 24 => 114 | 25 => 115 | 26 => 116 | 27 => 117 | 28 => 118 | 29 => 119 | 36 => 127 | 31 => 128 | 32 => 129 | 37 => 130 | 38 => 131 | 39 => 132 | 41 => 139 | n => n, fun | 27 => 47 | 29 => 9 | 3 => 3 | 32 => 126 | 26 => 47 | 0 => 0 | 44 => 166 | 46 => 35 | 4 => 4 | 36 => 160 | 35 => 159 | 41 => 137 | 5 => 5 | 9 => 9 | 53 => 171 | 57 => 174 | 63 => 177 | 64 => 178 | n => n, fun | n => n⟩
theorem Tryz.sort92 : Go.Proofs.SlLaysM.n6 Tryz.prog Tryz.sort92_ren := {
  mixed := by kernel_rfl
  f6 := ⟨Tryz.f92.name, by decide, Tryz.func92.trans (congrArg some (by kernel_rfl))⟩
  f8 := Tryz.func102.trans (congrArg some (by kernel_rfl))
  f9 := ⟨Tryz.f101.name, by decide, Tryz.func101.trans (congrArg some (by kernel_rfl))⟩
  f19 := Tryz.func120.trans (congrArg some (by kernel_rfl))
  f20 := Tryz.func121.trans (congrArg some (by kernel_rfl))
  f21 := ⟨Tryz.f111.name, by decide, Tryz.func111.trans (congrArg some (by kernel_rfl))⟩
  f22 := ⟨Tryz.f112.name, by decide, Tryz.func112.trans (congrArg some (by kernel_rfl))⟩
  f23 := ⟨Tryz.f113.name, by decide, Tryz.func113.trans (congrArg some (by kernel_rfl))⟩
  f24 := ⟨Tryz.f114.name, by decide, Tryz.func114.trans (congrArg some (by kernel_rfl))⟩
  f25 := ⟨Tryz.f115.name, by decide, Tryz.func115.trans (congrArg some (by kernel_rfl))⟩
  f26 := ⟨Tryz.f116.name, by decide, Tryz.func116.trans (congrArg some (by kernel_rfl))⟩
  f27 := ⟨Tryz.f117.name, by decide, Tryz.func117.trans (congrArg some (by kernel_rfl))⟩
  f28 := ⟨Tryz.f118.name, by decide, Tryz.func118.trans (congrArg some (by kernel_rfl))⟩
  f29 := ⟨Tryz.f119.name, by decide, Tryz.func119.trans (congrArg some (by kernel_rfl))⟩
  f31 := Tryz.func128.trans (congrArg some (by kernel_rfl))
  f32 := Tryz.func129.trans (congrArg some (by kernel_rfl))
  f36 := ⟨Tryz.f127.name, by decide, Tryz.func127.trans (congrArg some (by kernel_rfl))⟩
  f37 := ⟨Tryz.f130.name, by decide, Tryz.func130.trans (congrArg some (by kernel_rfl))⟩
  f38 := ⟨Tryz.f131.name, by decide, Tryz.func131.trans (congrArg some (by kernel_rfl))⟩
  f39 := ⟨Tryz.f132.name, by decide, Tryz.func132.trans (congrArg some (by kernel_rfl))⟩
  f41 := ⟨Tryz.f139.name, by decide, Tryz.func139.trans (congrArg some (by kernel_rfl))⟩
  t0 := Tryz.underlying0
  a0 := Tryz.isAgg0
  z0 := Tryz.sizeOf0
  v0 := Tryz.zeroValue0
  t3 := Tryz.underlying3
  a3 := Tryz.isAgg3
  z3 := Tryz.sizeOf3
  v3 := Tryz.zeroValue3
  t4 := Tryz.underlying4
  a4 := Tryz.isAgg4
  z4 := Tryz.sizeOf4
  v4 := Tryz.zeroValue4
  t5 := Tryz.underlying5
  a5 := Tryz.isAgg5
  z5 := Tryz.sizeOf5
  v5 := Tryz.zeroValue5
  t9 := Tryz.underlying9
  a9 := Tryz.isAgg9
  z9 := Tryz.sizeOf9
  v9 := Tryz.zeroValue9
  t26 := Tryz.underlying47
  a26 := Tryz.isAgg47
  z26 := Tryz.sizeOf47
  v26 := Tryz.zeroValue47
  t27 := Tryz.underlying47
  a27 := Tryz.isAgg47
  z27 := Tryz.sizeOf47
  v27 := Tryz.zeroValue47
  t29 := Tryz.underlying9
  a29 := Tryz.isAgg9
  z29 := Tryz.sizeOf9
  v29 := Tryz.zeroValue9
  t32 := Tryz.underlying126
  a32 := Tryz.isAgg126
  z32 := Tryz.sizeOf126
  v32 := Tryz.zeroValue126
  t35 := Tryz.underlying159
  a35 := Tryz.isAgg159
  z35 := Tryz.sizeOf159
  v35 := Tryz.zeroValue159
  t36 := Tryz.underlying160
  a36 := Tryz.isAgg160
  z36 := Tryz.sizeOf160
  v36 := Tryz.zeroValue160
  t41 := Tryz.underlying137
  a41 := Tryz.isAgg137
  z41 := Tryz.sizeOf137
  v41 := Tryz.zeroValue137
  t44 := Tryz.underlying166
  a44 := Tryz.isAgg166
  z44 := Tryz.sizeOf166
  v44 := Tryz.zeroValue166
  t46 := Tryz.underlying35
  a46 := Tryz.isAgg35
  z46 := Tryz.sizeOf35
  v46 := Tryz.zeroValue35
  t53 := Tryz.underlying171
  a53 := Tryz.isAgg171
  z53 := Tryz.sizeOf171
  v53 := Tryz.zeroValue171
  t57 := Tryz.underlying174
  a57 := Tryz.isAgg174
  z57 := Tryz.sizeOf174
  v57 := Tryz.zeroValue174
  t63 := Tryz.underlying177
  a63 := Tryz.isAgg177
  z63 := Tryz.sizeOf177
  v63 := Tryz.zeroValue177
  t64 := Tryz.underlying178
  a64 := Tryz.isAgg178
  z64 := Tryz.sizeOf178
  v64 := Tryz.zeroValue178 }
theorem Tryz.sorts65 (m : Nat) : AnyZ.SortsIn Tryz.prog Tryz.sorted65_ren Fence.wide m :=
  ⟨fun blk off cap ss W hH hblk hsz => callsIn_wide.2 (AnyM.slices_Sort_string Tryz.sort92 blk off cap ss W hH hblk hsz),
   fun p cap W => callsIn_wide.2 (AnyM.slices_Sort_string_none Tryz.sort92 p cap W)⟩

theorem Tryz.maps_Keys_66 (mb : Option Nat) (W : World) : CallsIn Fence.wide 5 Tryz.prog 66 #[.map mb] W fun e w' => e = .returned (.func (.func 93) #[] #[.pointer (some ⟨W.heap.size, 0, none⟩)]) ∧ w' = W.alloc (.cells #[.map mb] 63) :=
  AnyZ.keys_in Tryz.keys66 Fence.wide 5 trivial rfl mb W

set_option maxHeartbeats 1000000 in
theorem Tryz.slices_Sorted_keys_65_66 {H : Type} (b nn : Nat) (D0 : DataW H) (R : Value → Option (DataW H × List MemPlace)) (w : World) (hown : w.ownsMap Tryz.prog 9 R b nn D0) (hmax : Maps.size D0 ≤ maxLen) (hbytes : Maps.size D0 * 16 ≤ 140737488355328) :
    CallsIn Fence.wide 5 Tryz.prog 65 #[.func (.func 93) #[] #[.pointer (some ⟨w.heap.size, 0, none⟩)]] (w.alloc (.cells #[.map (some b)] 63)) fun e w' => ∃ (v : Value) (ss : List (List UInt8)), e = .returned v ∧ ss.Perm (strKeys D0) ∧
      w'.ownsRow (w.alloc (.cells #[.map (some b)] 63)).heap.size 9 1 v ss.length ((ss.mergeSort (fun x y => decide (x ≤ y))).map encStr) ∧ (v = .slice none 0 0 ↔ ss = []) ∧ Below (w.alloc (.cells #[.map (some b)] 63)).heap.size (w.alloc (.cells #[.map (some b)] 63)) w' := by
  have hbl := hown.lt
  have hseq : SeqGives Fence.wide 2 Tryz.prog 93 #[.pointer (some ⟨w.heap.size, 0, none⟩)] encStr (fun ss => ss.Perm (strKeys D0)) (Maps.size D0) (w.alloc (.cells #[.map (some b)] 63)) :=
    AnyZ.keys_gives (ρ := Tryz.keys66_ren) { Tryz.keys66 with } Fence.wide _ trivial rfl (by omega) w.heap.size b nn D0 _ (by simp) (by simp) (by
      obtain ⟨es, clock, hb, Ft, hs, hD⟩ := hown
      exact ⟨es, clock, (Below.heap_alloc _ _ b hbl).trans hb, Ft, hs, hD⟩)
  exact AnyZ.sorted_in Tryz.sorted65 Fence.wide 5 trivial trivial trivial trivial rfl (by omega) (Tryz.sorts65 _) (enters_of Tryz.func92 (by kernel_rfl) rfl) 93 #[.pointer (some ⟨w.heap.size, 0, none⟩)] trivial (enters_of Tryz.func93 (by kernel_rfl) rfl) _ _ hmax hbytes _ hseq

set_option maxHeartbeats 1000000 in
theorem Tryz.slices_Sorted_keys_nil_65_66 (w : World) :
    CallsIn Fence.wide 5 Tryz.prog 65 #[.func (.func 93) #[] #[.pointer (some ⟨w.heap.size, 0, none⟩)]] (w.alloc (.cells #[.map none] 63)) fun e w' => ∃ (v : Value) (ss : List (List UInt8)), e = .returned v ∧ ss = [] ∧
      w'.ownsRow (w.alloc (.cells #[.map none] 63)).heap.size 9 1 v ss.length ((ss.mergeSort (fun x y => decide (x ≤ y))).map encStr) ∧ (v = .slice none 0 0 ↔ ss = []) ∧ Below (w.alloc (.cells #[.map none] 63)).heap.size (w.alloc (.cells #[.map none] 63)) w' := by
  have hseq : SeqGives Fence.wide 2 Tryz.prog 93 #[.pointer (some ⟨w.heap.size, 0, none⟩)] encStr (fun ss : List (List UInt8) => ss = []) 0 (w.alloc (.cells #[.map none] 63)) :=
    AnyZ.keys_gives_nil (ρ := Tryz.keys66_ren) { Tryz.keys66 with } Fence.wide _ trivial rfl w.heap.size _ (by simp) (by simp)
  exact AnyZ.sorted_in Tryz.sorted65 Fence.wide 5 trivial trivial trivial trivial rfl (by omega) (Tryz.sorts65 _) (enters_of Tryz.func92 (by kernel_rfl) rfl) 93 #[.pointer (some ⟨w.heap.size, 0, none⟩)] trivial (enters_of Tryz.func93 (by kernel_rfl) rfl) _ 0 (Nat.zero_le _) (by omega) _ hseq

end Go.Proofs.YtiafhbpklddlnaaGreatDoor
