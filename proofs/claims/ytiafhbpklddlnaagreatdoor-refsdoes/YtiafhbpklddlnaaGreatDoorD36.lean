import Derived.Test.YtiafhbpklddlnaaGreatDoorD34
import Derived.Test.YtiafhbpklddlnaaGreatDoorD30
import Derived.Test.YtiafhbpklddlnaaGreatDoorD01
/- The walk of the law RefsNone. -/
namespace Go.Proofs.YtiafhbpklddlnaaGreatDoor
open Go.RowKit Go.Shelf Go.Maps

attribute [local go_sem] Oper.semAt_some

/-- the law's own result box stands, and nothing that was there is touched -/
structure CstR (w W : World) : Prop where
  bel : Below w.heap.size w W
  box : Boxed W w.heap.size 4 (.bool false)
theorem CstR.below {w W W' : World} (h : CstR w W) (hB : Below W.heap.size W W') : CstR w W' := ⟨h.bel.trans (hB.mono h.bel.size), (hB.block _ h.box.lt).trans h.box⟩
theorem CstR.alloc {w W : World} (h : CstR w W) (o : Obj) : CstR w (W.alloc o) := h.below ((Below.refl _ W).alloc (Nat.le_refl _) o)
theorem cstR_own (w : World) {B : Nat} (hB : w.heap.size < B) {β : Type} : OwnFrom B (fun (_ : β) W => CstR w W) := by
  rintro s X Y row h hg hr
  refine ⟨⟨hg.os.trans h.bel.os, hg.tape.trans h.bel.tape, hg.output.trans h.bel.output, Nat.le_trans h.bel.size hg.size, fun k hk => (hg.block k (Nat.lt_of_lt_of_le hk h.bel.size) (fun e => by have := (hr k e.symm).1; omega)).trans (h.bel.block k hk)⟩, h.box.kept hg (fun e => by have := (hr _ e.symm).1; omega)⟩
theorem all_any (w : World) (p : Option Addr) : Calls Tryz.prog 39 #[.pointer p] w fun e w' => e = .returned (.func (.func 63) #[] #[.pointer (some ⟨w.heap.size, 0, none⟩)]) ∧ w' = w.alloc (.cells #[.pointer p] 26) := by
  go_enter Tryz.func39, Tryz.ntmps39
  go_wp2
  go_ret
  exact ⟨rfl, rfl⟩
abbrev chE (x : Ch) : Array Value := #[.string x.1, .int .u64 x.2]
/-- refs that are not there tell nothing -/
theorem all_nil (w : World) (B : Nat) (hB : w.cell? ⟨B, 0, none⟩ = some (.pointer none)) (n : Nat) (Kb : Nat → Prop) :
    Tells Fence.wide n Tryz.prog 63 #[.pointer (some ⟨B, 0, none⟩)] chE (fun _ _ _ => False) Kb (fun xs => xs = []) w := by
  intro l J W hW hJg hY h0
  have hcB : W.cell? ⟨B, 0, none⟩ = some (.pointer none) := (hW.cell (p := ⟨B, 0, none⟩) (World.block_lt_of_cell? w _ hB)).trans hB
  refine callsIn_of_wp Tryz.func63 rfl trivial ?_ rfl
  simp only [Tryz.ntmps63, List.size_toArray, List.length_cons, List.length_nil, Nat.reduceAdd, Nat.reduceSub, Array.replicate_succ, Array.replicate_zero, List.push_toArray, List.append_toArray, List.nil_append, List.cons_append]
  have H0 : Hid (J [] W) := h0
  clear hY h0 hJg
  gi_wp2
  refine bodyPost_ret (results_none rfl _ _ _) rfl ?_
  exact ⟨⟨_, rfl⟩, [], rfl, H0.out⟩

/-- a box stands, and nothing that was there is touched -/
structure CstU (w W : World) (b : Nat) : Prop where
  bel : Below w.heap.size w W
  box : Boxed W b 30 (.slice none 0 0)
theorem cstU_own (w : World) {B b : Nat} (hB : w.heap.size ≤ B) (hb : b < B) {β : Type} : OwnFrom B (fun (_ : β) W => CstU w W b) := by
  rintro s X Y row h hg hr
  refine ⟨⟨hg.os.trans h.bel.os, hg.tape.trans h.bel.tape, hg.output.trans h.bel.output, Nat.le_trans h.bel.size hg.size, fun k hk => (hg.block k (Nat.lt_of_lt_of_le hk h.bel.size) (fun e => by have := (hr k e.symm).1; omega)).trans (h.bel.block k hk)⟩, h.box.kept hg (fun e => by have := (hr _ e.symm).1; omega)⟩

set_option maxRecDepth 100000 in
set_option maxHeartbeats 4000000 in
theorem under_nil (w : World) (s : ByteArray) : Calls Tryz.prog 68 #[.pointer none, .string s] w fun e w' => e = .returned (.slice none 0 0) ∧ Below w.heap.size w w' := by
  refine (callsIn_wide (n := 5)).1 ?_
  refine callsIn_of_wp_marks Tryz.func68 rfl trivial ?_ rfl
  simp only [Tryz.ntmps68, List.size_toArray, List.length_cons, List.length_nil, Nat.reduceAdd, Nat.reduceSub, Array.replicate_succ, Array.replicate_zero, List.push_toArray, List.append_toArray, List.nil_append, List.cons_append]
  have hmx : Tryz.prog.follows .mixedOrders = true := by kernel_rfl
  refine wpIn_wide.2 ?_
  go_wp2_with (go_at_call 39; refine (all_any _ _).mono ?_; rintro e w8 ⟨rfl, h8⟩; subst h8)
  obtain ⟨wz, hwz⟩ : ∃ wz, wz = ((w.alloc (.cells #[.string s] 9)).alloc (.cells #[.slice none 0 0] 30)).alloc (.cells #[.pointer none] 26) := ⟨_, rfl⟩
  have hzs : wz.heap.size = w.heap.size + 3 := by rw [hwz]; simp
  have bU : Boxed wz (w.heap.size + 1) 30 (.slice none 0 0) := by
    have := (Boxed.new (w.alloc (.cells #[.string s] 9)) 30 (.slice none 0 0)).alloc (.cells #[.pointer none] 26)
    rw [World.size_alloc] at this
    rw [hwz]; exact this
  have bB : Boxed wz (w.heap.size + 1 + 1) 26 (.pointer none) := by
    have := Boxed.new ((w.alloc (.cells #[.string s] 9)).alloc (.cells #[.slice none 0 0] 30)) 26 (.pointer none)
    rw [World.size_alloc, World.size_alloc] at this
    rw [hwz]; exact this
  have Bz : Below w.heap.size w wz := by rw [hwz]; exact (((Below.refl _ w).alloc (Nat.le_refl _) _).alloc (by simp) _).alloc (by simp only [World.size_alloc]; omega) _
  rw [← hwz]
  clear hwz
  refine (wpIn_wide (n := 5)).1 ?_
  refine range_told (α := Ch) (w := wz) rfl (by omega) (gf := 63) (lb := #[.pointer (some ⟨w.heap.size + 1 + 1, 0, none⟩)]) rfl trivial (enters_of Tryz.func63 (by kernel_rfl) rfl)
    (all_nil wz (w.heap.size + 1 + 1) bB.cell 4 (fun _ => False)) (fun _ => rfl) (fun k hk => hk.elim)
    (fun _ W => CstU w W (w.heap.size + 1)) (cstU_own w (by omega) (by omega)) (fun _ _ _ _ _ _ h _ _ => h) ⟨Bz, bU⟩ ?act ?assign ?body ?done
  case assign =>
    intro l x W K hK
    gi_wp2
    exact hK
  case body => exact fun l pre x W _ _ h => h.elim
  case done =>
    rintro D xs W hD hxs hC hK
    have cU := hC.box.cell
    have H : Hid (CstU w W (w.heap.size + 1) ∧ W.heap[D]? = some (.deferred (some []))) := ⟨hC, hK⟩
    clear hC hK
    go_wp2_with fail
    have hE := rturn_put (.deferred none) (Turn.of_below (fun _ => False) H.out.1.bel) (D := D) (by omega)
    exact rfin_m (v := .slice none 0 0) H.out.2 (by simp [results, Tryz.results68, go_sem]) ⟨rfl, hE.below (Nat.le_refl _) (fun _ h => h.elim)⟩

end Go.Proofs.YtiafhbpklddlnaaGreatDoor

/- A range over a function where the iterator lays blocks of its own and the body has blocks of its own: each side's blocks stay as they are while the other goes on. Of no program; no law of the library says it. -/
namespace Go.Proofs.YtiafhbpklddlnaaGreatDoor
open Go.RowKit Go.Shelf

/-- what speaks of the blocks f alone: it abides whatever is done to others -/
def Apart {β : Type} (J : β → (Nat → Prop) → World → Prop) : Prop := (∀ s f X Y, J s f X → Turn (fun k => ¬ f k) X Y → J s f Y) ∧ ∀ s f X, J s f X → ∀ k, f k → k < X.heap.size

/-- the iterator's word: whatever the loop's body, it goes on, or leaves; it writes to nothing but its own blocks -/
def TellsO {α : Type} (F : Fence) (n m : Nat) (P : Program) (gf : Nat) (lb : Array Value) (encs : α → Array Value) (Px : List α → α → World → Prop) (Kb : Nat → Prop) (S : List α → Prop) (w : World) : Prop :=
  ∀ (l : Nat) (J Jx : List α → (Nat → Prop) → World → Prop) (f0 : Nat → Prop) (W : World), Below w.heap.size w W → l < W.heap.size → ¬ Kb l → Apart J → Apart Jx → (∀ k, f0 k → ¬ Kb k) →
    (∀ pre x f W1, J pre f W1 → W.heap.size ≤ W1.heap.size → Px pre x W1 → YieldAt F m P l (encs x) W1 fun e W' => ∃ f', (∀ k, f' k → f k ∨ W1.heap.size ≤ k) ∧ Turn (fun k => f k ∨ k = l) W1 W' ∧ ((e = .returned (.bool true) ∧ J (pre ++ [x]) f' W') ∨ (e = .returned (.bool false) ∧ Jx (pre ++ [x]) f' W'))) →
    J [] f0 W → CallsIn F n P gf (#[.func (.yield l) #[] #[]] ++ lb) W fun e W' => (∃ v, e = .returned v) ∧ ∃ f', (∀ k, f' k → f0 k ∨ W.heap.size ≤ k) ∧ Turn (fun k => f0 k ∨ k = l) W W' ∧ ((∃ xs, S xs ∧ J xs f' W') ∨ ∃ pre, Jx pre f' W')

/-- how a round may be left -/
def ownPost {α : Type} (I : List α → (Nat → Prop) → World → Prop) (Ix : Code → List α → (Nat → Prop) → World → Prop) (f : Nat → Prop) (xs : List α) (W : World) : Exit → Act → World → Prop
  | .normal, _, W' => ∃ f', (∀ k, f' k → f k ∨ W.heap.size ≤ k) ∧ Turn f W W' ∧ I xs f' W'
  | .ret, _, W' => ∃ f', (∀ k, f' k → f k ∨ W.heap.size ≤ k) ∧ Turn f W W' ∧ Ix .ret xs f' W'
  | .exit id, _, W' => ∃ f', (∀ k, f' k → f k ∨ W.heap.size ≤ k) ∧ Turn f W W' ∧ Ix (.exit id) xs f' W'
  | _, _, _ => False

theorem turn_putObj (W : World) (l : Nat) (o : Obj) : Turn (fun k => k = l) W (W.putObj l o) := ⟨rfl, rfl, rfl, by simp, fun k _ hk => World.putObj_heap_other (fun e => hk e)⟩

theorem range_owns {α : Type} {F : Fence} {n m : Nat} {P : Program} {g : Operand} {ps : Array Tmp} {assign body : Code} {Q : Exit → Act → World → Prop} {a : Act} {w : World}
    (hro : F.round = none) (h1 : 1 ≤ n) {gf : Nat} {lb : Array Value} (hg : a.eval g = .func (.func gf) #[] lb) (hFg : F.fn gf) (eg : ∀ args w, (callFunc gf args).run P w = .ok (.enter gf args) w)
    {encs : α → Array Value} {Px : List α → α → World → Prop} {Kb : Nat → Prop} {S : List α → Prop} (hit : TellsO F (n - 1) m P gf lb encs Px Kb S w) (hps : ∀ x, (encs x).size = ps.size) (hKb : ∀ k, Kb k → k < w.heap.size)
    (I : List α → (Nat → Prop) → World → Prop) (Ix : Code → List α → (Nat → Prop) → World → Prop) (hI : Apart I) (hIx : ∀ c, Apart (Ix c)) (hPx : ∀ pre x W l o, Px pre x W → w.heap.size ≤ l → Px pre x (W.putObj l o)) (f0 : Nat → Prop) (hf0 : ∀ k, f0 k → ¬ Kb k) (h0 : I [] f0 w) (a₁ : α → Act)
    (hassign : ∀ (l : Nat) (x : α) (W : World) (K : Act → World → Prop), K (a₁ x) W →
      assign.wpIn (F.inRound l) m P (Exit.then K (fun _ _ _ => False)) { tmps := (ps.zip (encs x)).foldl (fun t (p, v) => t.setIfInBounds p v) a.tmps, defers := [] } W)
    (hbody : ∀ (l : Nat) (pre : List α) (x : α) (f : Nat → Prop) (W : World), w.heap.size ≤ W.heap.size → I pre f W → Px pre x W → body.wpIn (F.inRound l) m P (ownPost I Ix f (pre ++ [x]) W) (a₁ x) W)
    (hdone : ∀ (D : Nat) (xs : List α) (f : Nat → Prop) (W : World), w.heap.size ≤ D → S xs → I xs f W → (∀ k, f k → f0 k ∨ w.heap.size ≤ k) → ¬ f D → Turn f0 w W → W.heap[D]? = some (.deferred (some [])) → Q .normal { a with defers := { target := .collected D, args := #[] } :: a.defers } W)
    (hstop : ∀ (D : Nat) (c : Code) (pre : List α) (f : Nat → Prop) (W : World), w.heap.size ≤ D → Ix c pre f W → (∀ k, f k → f0 k ∨ w.heap.size ≤ k) → ¬ f D → Turn f0 w W → W.heap[D]? = some (.deferred (some [])) → c.wpIn F n P Q { a with defers := { target := .collected D, args := #[] } :: a.defers } W) :
    (Code.rangeFunc g ps assign body).wpIn F n P Q a w := by
  refine wpIn_rangeFunc fun fn hfn => ?_
  rw [hro]
  let R : LoopState → Option Code → Loop := fun st pe => { state := st, pending := pe, fn := fn, tmps := a.tmps, params := ps, assign := assign, body := body, defers := w.heap.size }
  let D := w.heap.size
  let L := w.heap.size + 1
  let W0 := (w.alloc (.deferred (some []))).alloc (.loop (R .ready none))
  have hD0 : W0.heap[D]? = some (.deferred (some [])) := (Below.heap_alloc _ _ _ (by simp [D])).trans (World.alloc_heap_new w _)
  have hL0 : W0.heap[L]? = some (.loop (R .ready none)) := by
    have := World.alloc_heap_new (w.alloc (.deferred (some []))) (.loop (R .ready none))
    rwa [World.size_alloc] at this
  have hB0 : Below w.heap.size w W0 := ((Below.refl _ w).alloc (Nat.le_refl _) _).alloc (by simp) _
  have hs0 : W0.heap.size = w.heap.size + 2 := by simp [W0]
  have hlt0 := hI.2 _ _ _ h0
  have hI0 : I [] f0 W0 := hI.1 _ _ _ _ h0 (Turn.of_below _ hB0)
  have nL : ¬ Kb L := fun h => by have := hKb _ h; omega
  refine ⟨L, [{ target := .collected D, args := #[] }], W0, { target := .fn (.func gf) lb, args := #[.func (.yield L) #[] #[]] }, W0, gf, #[.func (.yield L) #[] #[]] ++ lb, W0, run_enterLoop_outer _ _ _ _ _, ?_, ?_, ?_, fun _ => h1, ?_⟩
  · simp only [resolve, hg]
    simp [go_sem]
  · intro f' hf'
    simp [Target.leads] at hf'
    exact hf' ▸ hFg
  · simp [invoke, go_sem, eg]
  · let J : List α → (Nat → Prop) → World → Prop := fun pre f W => ∃ f1, I pre f1 W ∧ ¬ f1 L ∧ ¬ f1 D ∧ W.heap[L]? = some (.loop (R .ready none)) ∧ W.heap[D]? = some (.deferred (some [])) ∧ ∀ k, f k ↔ (f1 k ∨ k = L ∨ k = D)
    let Jx : List α → (Nat → Prop) → World → Prop := fun pre f W => ∃ c f1, Ix c pre f1 W ∧ ¬ f1 L ∧ ¬ f1 D ∧ W.heap[L]? = some (.loop (R .done (some c))) ∧ W.heap[D]? = some (.deferred (some [])) ∧ ∀ k, f k ↔ (f1 k ∨ k = L ∨ k = D)
    have lt_of : ∀ {W : World} {k : Nat} {o : Obj}, W.heap[k]? = some o → k < W.heap.size := fun h => (Array.getElem?_eq_some_iff.1 h).1
    have hJa : Apart J := by
      refine ⟨fun s f X Y ⟨f1, h1, h2, h3, h4, h5, h6⟩ ht => ⟨f1, hI.1 _ _ _ _ h1 (ht.wide (fun k hk hf => hk ((h6 k).2 (.inl hf)))), h2, h3, (ht.block L (lt_of h4) (fun h => h ((h6 L).2 (.inr (.inl rfl))))).trans h4, (ht.block D (lt_of h5) (fun h => h ((h6 D).2 (.inr (.inr rfl))))).trans h5, h6⟩, fun s f X ⟨f1, h1, h2, h3, h4, h5, h6⟩ k hk => ?_⟩
      rcases (h6 k).1 hk with h | rfl | rfl
      · exact hI.2 _ _ _ h1 k h
      · exact lt_of h4
      · exact lt_of h5
    have hJxa : Apart Jx := by
      refine ⟨fun s f X Y ⟨c, f1, h1, h2, h3, h4, h5, h6⟩ ht => ⟨c, f1, (hIx c).1 _ _ _ _ h1 (ht.wide (fun k hk hf => hk ((h6 k).2 (.inl hf)))), h2, h3, (ht.block L (lt_of h4) (fun h => h ((h6 L).2 (.inr (.inl rfl))))).trans h4, (ht.block D (lt_of h5) (fun h => h ((h6 D).2 (.inr (.inr rfl))))).trans h5, h6⟩, fun s f X ⟨c, f1, h1, h2, h3, h4, h5, h6⟩ k hk => ?_⟩
      rcases (h6 k).1 hk with h | rfl | rfl
      · exact (hIx c).2 _ _ _ h1 k h
      · exact lt_of h4
      · exact lt_of h5
    have round : ∀ pre x f W1, J pre f W1 → W0.heap.size ≤ W1.heap.size → Px pre x W1 → YieldAt F m P L (encs x) W1 fun e W' => ∃ f', (∀ k, f' k → f k ∨ W1.heap.size ≤ k) ∧ Turn (fun k => f k ∨ k = L) W1 W' ∧ ((e = .returned (.bool true) ∧ J (pre ++ [x]) f' W') ∨ (e = .returned (.bool false) ∧ Jx (pre ++ [x]) f' W')) := by
      rintro pre x f W1 ⟨f1, hi, hnL, hnD, hL, hD, hf⟩ hsz hx
      refine ⟨fn, _, assign, body, run_yield hL (hps x), roundIn_of_wpIn hfn (hassign L x W1 _ ⟨_, run_beginRound hL rfl, ?_⟩)⟩
      have hLlt := lt_of hL
      have hDlt := lt_of hD
      have hsp : (W1.putObj L (.loop { R .ready none with state := .busy })).heap.size = W1.heap.size := by simp
      refine wpIn_mono (hbody L pre x f1 _ (by rw [hsp]; omega) (hI.1 _ _ _ _ hi ((turn_putObj W1 L _).wide (fun k hk => hk ▸ hnL))) (hPx pre x W1 L _ hx (by omega))) ?_
      have fin : ∀ (jump : Option Code) (f' : Nat → Prop) (W3 : World), (∀ k, f' k → f1 k ∨ (W1.putObj L (.loop { R .ready none with state := .busy })).heap.size ≤ k) → Turn f1 (W1.putObj L (.loop { R .ready none with state := .busy })) W3 →
          (Instr.endRound L jump).run P W3 = .ok (.bool jump.isNone) (W3.putObj L (.loop (R (if jump.isNone then .ready else .done) jump))) ∧
          (W3.putObj L (.loop (R (if jump.isNone then .ready else .done) jump))).heap[L]? = some (.loop (R (if jump.isNone then .ready else .done) jump)) ∧
          (W3.putObj L (.loop (R (if jump.isNone then .ready else .done) jump))).heap[D]? = some (.deferred (some [])) ∧
          ¬ f' L ∧ ¬ f' D ∧ Turn (fun k => f k ∨ k = L) W1 (W3.putObj L (.loop (R (if jump.isNone then .ready else .done) jump))) ∧ Turn (fun k => ¬ f' k) W3 (W3.putObj L (.loop (R (if jump.isNone then .ready else .done) jump))) := fun jump f' W3 hf' ht => by
        have hL3 : W3.heap[L]? = some (.loop (R .busy none)) := (ht.block L (by rw [hsp]; exact hLlt) hnL).trans (World.putObj_heap_same hLlt)
        have hD3 : W3.heap[D]? = some (.deferred (some [])) := (ht.block D (by rw [hsp]; exact hDlt) hnD).trans ((World.putObj_heap_other (by omega)).trans hD)
        have n1 : ¬ f' L := fun h => (hf' L h).elim hnL (fun e => by rw [hsp] at e; omega)
        have n2 : ¬ f' D := fun h => (hf' D h).elim hnD (fun e => by rw [hsp] at e; omega)
        refine ⟨run_endRound jump hL3, World.putObj_heap_same (lt_of hL3), (World.putObj_heap_other (by omega)).trans hD3, n1, n2, ?_, (turn_putObj W3 L _).wide (fun k hk => hk ▸ n1)⟩
        exact (((turn_putObj W1 L (.loop { R .ready none with state := .busy })).wide (fun k hk => .inr hk)).trans ht (fun k _ hk => .inl ((hf k).2 (.inl hk)))).trans (turn_putObj W3 L _) (fun k _ hk => .inr hk)
      have wid : ∀ (f' : Nat → Prop), (∀ k, f' k → f1 k ∨ (W1.putObj L (.loop { R .ready none with state := .busy })).heap.size ≤ k) → ∀ k, (f' k ∨ k = L ∨ k = D) → f k ∨ W1.heap.size ≤ k := fun f' h k hk => by
        rcases hk with hk | hk | hk
        · rcases h k hk with e | e
          · exact .inl ((hf k).2 (.inl e))
          · rw [hsp] at e; exact .inr e
        · exact .inl ((hf k).2 (.inr (.inl hk)))
        · exact .inl ((hf k).2 (.inr (.inr hk)))
      rintro e a3 W3 hp
      cases e with
      | normal =>
        obtain ⟨f', hf', ht, hi3⟩ := hp
        obtain ⟨hr, hl4, hd4, n1, n2, t1, t2⟩ := fin none f' W3 hf' ht
        exact ⟨_, _, hr, fun k => f' k ∨ k = L ∨ k = D, wid f' hf', t1, .inl ⟨rfl, f', hI.1 _ _ _ _ hi3 t2, n1, n2, hl4, hd4, fun _ => Iff.rfl⟩⟩
      | ret =>
        obtain ⟨f', hf', ht, hi3⟩ := hp
        obtain ⟨hr, hl4, hd4, n1, n2, t1, t2⟩ := fin (some .ret) f' W3 hf' ht
        exact ⟨_, _, hr, fun k => f' k ∨ k = L ∨ k = D, wid f' hf', t1, .inr ⟨rfl, .ret, f', (hIx _).1 _ _ _ _ hi3 t2, n1, n2, hl4, hd4, fun _ => Iff.rfl⟩⟩
      | exit id =>
        obtain ⟨f', hf', ht, hi3⟩ := hp
        obtain ⟨hr, hl4, hd4, n1, n2, t1, t2⟩ := fin (some (.exit id)) f' W3 hf' ht
        exact ⟨_, _, hr, fun k => f' k ∨ k = L ∨ k = D, wid f' hf', t1, .inr ⟨rfl, .exit id, f', (hIx _).1 _ _ _ _ hi3 t2, n1, n2, hl4, hd4, fun _ => Iff.rfl⟩⟩
      | goto t => exact hp.elim
      | panic ch => exact hp.elim
      | outgrown => exact hp.elim
    have nfL : ¬ f0 L := fun h => by have := hlt0 _ h; omega
    have nfD : ¬ f0 D := fun h => by have := hlt0 _ h; omega
    refine (hit L J Jx (fun k => f0 k ∨ k = L ∨ k = D) W0 hB0 (by omega) nL hJa hJxa (fun k hk hb => by
      rcases hk with h | rfl | rfl
      · exact hf0 k h hb
      · exact nL hb
      · have := hKb _ hb; omega) round ⟨f0, hI0, nfL, nfD, hL0, hD0, fun _ => Iff.rfl⟩).mono ?_
    have endT : ∀ (W2 : World) (o : Obj), Turn (fun k => (f0 k ∨ k = L ∨ k = D) ∨ k = L) W0 W2 → Turn f0 w (W2.putObj L o) := fun W2 o ht => by
      refine ⟨(ht.os.trans hB0.os), (ht.tape.trans hB0.tape), (ht.output.trans hB0.output), ?_, fun k hk hn => ?_⟩
      · have := ht.size; have := hB0.size; simp; omega
      · rw [World.putObj_heap_other (by omega), ht.block k (by omega) (fun h => by rcases h with (h | h | h) | h <;> first | exact hn h | omega), hB0.block k hk]
    have endF : ∀ (f' f1 : Nat → Prop), (∀ k, f' k → (f0 k ∨ k = L ∨ k = D) ∨ W0.heap.size ≤ k) → (∀ k, f' k ↔ (f1 k ∨ k = L ∨ k = D)) → ∀ k, f1 k → f0 k ∨ w.heap.size ≤ k := fun f' f1 hw hf k hk => by
      rcases hw k ((hf k).2 (.inl hk)) with (h | h | h) | h
      · exact .inl h
      · exact .inr (by omega)
      · exact .inr (by omega)
      · exact .inr (by omega)
    rintro e W2 ⟨⟨v, rfl⟩, f', hf', ht, (⟨xs, hS, f1, hi, hnL, hnD, hL, hD, hf⟩ | ⟨pre, c, f1, hi, hnL, hnD, hL, hD, hf⟩)⟩
    · exact ⟨none, _, run_endLoop hL (by simp [R]), hdone D xs f1 _ (Nat.le_refl _) hS (hI.1 _ _ _ _ hi ((turn_putObj W2 L _).wide (fun k hk => hk ▸ hnL))) (endF f' f1 hf' hf) hnD (endT W2 _ ht) ((World.putObj_heap_other (by omega)).trans hD)⟩
    · exact ⟨some c, _, run_endLoop hL (by simp [R]), hstop D c pre f1 _ (Nat.le_refl _) ((hIx c).1 _ _ _ _ hi ((turn_putObj W2 L _).wide (fun k hk => hk ▸ hnL))) (endF f' f1 hf' hf) hnD (endT W2 _ ht) ((World.putObj_heap_other (by omega)).trans hD)⟩

end Go.Proofs.YtiafhbpklddlnaaGreatDoor
