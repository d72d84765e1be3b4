import Derived.Test.YtdjodigimhgklaaGreatDoorP09
import Derived.Test.YtdjodigimhgklaaGreatDoorP10
import Derived.Sort.BigQuietIn
import Derived.Test.YtdjodigimhgklaaGreatDoorP08
import Derived.Test.YtdjodigimhgklaaGreatDoorP04
/- Plain: two lists of pairs joined. -/
namespace Go.Proofs.YtdjodigimhgklaaGreatDoor
open Go.RowKit

/-- two lists by rising From; of two with one From that of the first -/
def joinL : List Pr → List Pr → List Pr
  | [], m => m
  | p :: l, [] => p :: l
  | p :: l, q :: m => if q.1 < p.1 then q :: joinL (p :: l) m else if q.1 = p.1 then p :: joinL l m else p :: joinL l (q :: m)
termination_by l m => l.length + m.length
theorem joinL_nil (l : List Pr) : joinL l [] = l := by cases l <;> simp [joinL]
theorem joinL_less {p q : Pr} {l m : List Pr} (h : q.1 < p.1) : joinL (p :: l) (q :: m) = q :: joinL (p :: l) m := by rw [joinL, if_pos h]
theorem joinL_same {p q : Pr} {l m : List Pr} (h : q.1 = p.1) : joinL (p :: l) (q :: m) = p :: joinL l m := by rw [joinL, if_neg (by omega), if_pos h]
theorem joinL_more {p q : Pr} {l m : List Pr} (h : p.1 < q.1) : joinL (p :: l) (q :: m) = p :: joinL l (q :: m) := by rw [joinL, if_neg (by omega), if_neg (by omega)]
theorem joinL_mem (l m : List Pr) : ∀ x ∈ joinL l m, x ∈ l ∨ x ∈ m := by
  induction l, m using joinL.induct with
  | case1 m => intro x h; rw [joinL] at h; exact .inr h
  | case2 p l => intro x h; rw [joinL_nil] at h; exact .inl h
  | case3 p l q m hlt ih =>
    intro x h
    rw [joinL_less hlt] at h
    rcases List.mem_cons.1 h with rfl | h
    · exact .inr (List.mem_cons_self ..)
    · exact (ih x h).imp id (List.mem_cons_of_mem _)
  | case4 p l q m hlt he ih =>
    intro x h
    rw [joinL_same he] at h
    rcases List.mem_cons.1 h with rfl | h
    · exact .inl (List.mem_cons_self ..)
    · exact (ih x h).imp (List.mem_cons_of_mem _) (List.mem_cons_of_mem _)
  | case5 p l q m hlt he ih =>
    intro x h
    rw [joinL_more (by omega)] at h
    rcases List.mem_cons.1 h with rfl | h
    · exact .inl (List.mem_cons_self ..)
    · exact (ih x h).imp (List.mem_cons_of_mem _) id
theorem joinL_len (l m : List Pr) : (joinL l m).length ≤ l.length + m.length := by
  induction l, m using joinL.induct with
  | case1 m => rw [joinL]; simp
  | case2 p l => rw [joinL_nil]; simp
  | case3 p l q m hlt ih => rw [joinL_less hlt]; simp only [List.length_cons] at ih ⊢; omega
  | case4 p l q m hlt he ih => rw [joinL_same he]; simp only [List.length_cons] at ih ⊢; omega
  | case5 p l q m hlt he ih => rw [joinL_more (by omega)]; simp only [List.length_cons] at ih ⊢; omega
theorem joinL_ok {l m : List Pr} (hl : PrOk l) (hm : PrOk m) : PrOk (joinL l m) := fun p hp => (joinL_mem l m p hp).elim (hl p) (hm p)
theorem joinL_ris (l m : List Pr) : Ris l → Ris m → Ris (joinL l m) := by
  unfold Ris
  induction l, m using joinL.induct with
  | case1 m => intro _ h; rw [joinL]; exact h
  | case2 p l => intro h _; rw [joinL_nil]; exact h
  | case3 p l q m hlt ih =>
    intro hl hm
    rw [joinL_less hlt]
    have hm' := List.pairwise_cons.1 hm
    have hl' := List.pairwise_cons.1 hl
    refine List.pairwise_cons.2 ⟨fun x hx => ?_, ih hl hm'.2⟩
    rcases joinL_mem _ _ x hx with h | h
    · rcases List.mem_cons.1 h with rfl | h
      · exact hlt
      · have := hl'.1 x h; omega
    · exact hm'.1 x h
  | case4 p l q m hlt he ih =>
    intro hl hm
    rw [joinL_same he]
    have hm' := List.pairwise_cons.1 hm
    have hl' := List.pairwise_cons.1 hl
    refine List.pairwise_cons.2 ⟨fun x hx => ?_, ih hl'.2 hm'.2⟩
    rcases joinL_mem _ _ x hx with h | h
    · exact hl'.1 x h
    · have := hm'.1 x h; omega
  | case5 p l q m hlt he ih =>
    intro hl hm
    rw [joinL_more (by omega)]
    have hm' := List.pairwise_cons.1 hm
    have hl' := List.pairwise_cons.1 hl
    refine List.pairwise_cons.2 ⟨fun x hx => ?_, ih hl'.2 hm⟩
    rcases joinL_mem _ _ x hx with h | h
    · exact hl'.1 x h
    · rcases List.mem_cons.1 h with rfl | h
      · omega
      · have := hm'.1 x h; omega
theorem joinL_look (l m : List Pr) (x : Nat) : Ris l → Ris m → lookP (joinL l m) x = (lookP l x).or (lookP m x) := by
  unfold Ris
  induction l, m using joinL.induct with
  | case1 m => intro _ _; rw [joinL]; rfl
  | case2 p l => intro _ _; rw [joinL_nil]; cases lookP (p :: l) x <;> rfl
  | case3 p l q m hlt ih =>
    intro hl hm
    have hm' := List.pairwise_cons.1 hm
    have hl' := List.pairwise_cons.1 hl
    rw [joinL_less hlt, lookP, ih hl hm'.2]
    by_cases e : q.1 = x
    · have hn : lookP (p :: l) x = none := (look_none _ x).2 fun y hy => by
        rcases List.mem_cons.1 hy with rfl | hy
        · omega
        · have := hl'.1 y hy; omega
      rw [if_pos e, hn, lookP, if_pos e]
      rfl
    · rw [if_neg e, lookP.eq_def (q :: m)]
      simp only [if_neg e]
  | case4 p l q m hlt he ih =>
    intro hl hm
    have hm' := List.pairwise_cons.1 hm
    have hl' := List.pairwise_cons.1 hl
    rw [joinL_same he, lookP, ih hl'.2 hm'.2, lookP]
    by_cases e : p.1 = x
    · simp only [if_pos e]
      rfl
    · simp only [if_neg e]
      rw [lookP, if_neg (by omega)]
  | case5 p l q m hlt he ih =>
    intro hl hm
    have hl' := List.pairwise_cons.1 hl
    rw [joinL_more (by omega), lookP, ih hl'.2 hm, lookP.eq_def (p :: l)]
    by_cases e : p.1 = x
    · simp only [if_pos e]
      rfl
    · simp only [if_neg e]
end Go.Proofs.YtdjodigimhgklaaGreatDoor

/- A range over a function whose body may leave it, where the assignment of the values that are handed in makes a box for them (a struct's own variable). Of no program; no law of the library says it. -/
namespace Go.Proofs.YtdjodigimhgklaaGreatDoor
open Go.RowKit Go.Shelf

theorem range_boxed {α : Type} {F : Fence} {n : Nat} {P : Program} {g : Operand} {ps : Array Tmp} {assign body : Code} {Q : Exit → Act → World → Prop} {a : Act} {w : World}
    (hro : F.round = none) (h1 : 1 ≤ n) {gf : Nat} {lb : Array Value} (hg : a.eval g = .func (.func gf) #[] lb) (hFg : F.fn gf) (eg : ∀ args w, (callFunc gf args).run P w = .ok (.enter gf args) w)
    {encs : α → Array Value} {Px : List α → α → World → Prop} {Kb : Nat → Prop} {S : List α → Prop} (hit : TellsB F (n - 1) P gf lb encs Px Kb S w) (hps : ∀ x, (encs x).size = ps.size) (hKb : ∀ k, Kb k → k < w.heap.size)
    (I : List α → World → Prop) (Ix : Code → List α → World → Prop) (hI : OwnFrom w.heap.size I) (hIx : ∀ c, OwnFrom w.heap.size (Ix c)) (hPx : ∀ pre x, OwnFrom w.heap.size (fun (_ : Unit) W => Px pre x W)) (h0 : I [] w) (ob : α → Obj) (a₁ : α → Nat → Act)
    (hassign : ∀ (l : Nat) (x : α) (b : Nat) (W : World) (K : Act → World → Prop), W.heap.size = b → K (a₁ x b) (W.alloc (ob x)) →
      assign.wpIn (F.inRound l) (n - 1 - 1) P (Exit.then K (fun _ _ _ => False)) { tmps := (ps.zip (encs x)).foldl (fun t (p, v) => t.setIfInBounds p v) a.tmps, defers := [] } W)
    (hbody : ∀ (l : Nat) (pre : List α) (x : α) (bx : Nat) (W : World), w.heap.size ≤ l → w.heap.size ≤ bx → W.heap[bx]? = some (ob x) → I pre W → Px pre x W → body.wpIn (F.inRound l) (n - 1 - 1) P (bothPost w.heap.size Kb I Ix (pre ++ [x]) W) (a₁ x bx) W)
    (hdone : ∀ (D : Nat) (xs : List α) (W : World), w.heap.size ≤ D → S xs → I xs W → W.heap[D]? = some (.deferred (some [])) → Q .normal { a with defers := { target := .collected D, args := #[] } :: a.defers } W)
    (hstop : ∀ (D : Nat) (c : Code) (pre : List α) (W : World), w.heap.size ≤ D → Ix c pre W → W.heap[D]? = some (.deferred (some [])) → c.wpIn F n P Q { a with defers := { target := .collected D, args := #[] } :: a.defers } W) :
    (Code.rangeFunc g ps assign body).wpIn F n P Q a w := by
  refine wpIn_rangeFunc fun fn hfn => ?_
  rw [hro]
  let R : LoopState → Option Code → Loop := fun st pe => { state := st, pending := pe, fn := fn, tmps := a.tmps, params := ps, assign := assign, body := body, defers := w.heap.size }
  let D := w.heap.size
  let L := w.heap.size + 1
  let W0 := (w.alloc (.deferred (some []))).alloc (.loop (R .ready none))
  have hD0 : W0.heap[D]? = some (.deferred (some [])) := (Below.heap_alloc _ _ _ (by simp [D])).trans (World.alloc_heap_new w _)
  have hL0 : W0.heap[L]? = some (.loop (R .ready none)) := by
    have := World.alloc_heap_new (w.alloc (.deferred (some []))) (.loop (R .ready none))
    rwa [World.size_alloc] at this
  have hB0 : Below w.heap.size w W0 := ((Below.refl _ w).alloc (Nat.le_refl _) _).alloc (by simp) _
  have hI0 : I [] W0 := hI.alloc _ (hI.alloc _ h0)
  have nL : ¬ Kb L := fun h => by have := hKb _ h; omega
  have hKal : ∀ (x : α) (X : World), w.heap.size ≤ X.heap.size → Keep Kb X (X.alloc (ob x)) := fun x X hX => ⟨by simp, fun k hk => Below.heap_alloc _ _ _ (by have := hKb k hk; omega)⟩
  refine ⟨L, [{ target := .collected D, args := #[] }], W0, { target := .fn (.func gf) lb, args := #[.func (.yield L) #[] #[]] }, W0, gf, #[.func (.yield L) #[] #[]] ++ lb, W0, run_enterLoop_outer _ _ _ _ _, ?_, ?_, ?_, fun _ => h1, ?_⟩
  · simp only [resolve, hg]
    simp [go_sem]
  · intro f' hf'
    simp [Target.leads] at hf'
    exact hf' ▸ hFg
  · simp [invoke, go_sem, eg]
  · let J : List α → World → Prop := fun pre W => I pre W ∧ W.heap[L]? = some (.loop (R .ready none)) ∧ W.heap[D]? = some (.deferred (some []))
    let Jx : List α → World → Prop := fun pre W => ∃ c, Ix c pre W ∧ W.heap[L]? = some (.loop (R .done (some c))) ∧ W.heap[D]? = some (.deferred (some []))
    have lt_of : ∀ {W : World} {k : Nat} {o : Obj}, W.heap[k]? = some o → k < W.heap.size := fun h => (Array.getElem?_eq_some_iff.1 h).1
    have hJg : ∀ s X Y, J s X → X.grownBy Y none → J s Y := fun s X Y hs hgr =>
      ⟨hI s X Y none hs.1 hgr (by simp), (hgr.block _ (lt_of hs.2.1) (by simp)).trans hs.2.1, (hgr.block _ (lt_of hs.2.2) (by simp)).trans hs.2.2⟩
    have hJxg : ∀ s X Y, Jx s X → X.grownBy Y none → Jx s Y := fun s X Y ⟨c, hs⟩ hgr =>
      ⟨c, hIx c s X Y none hs.1 hgr (by simp), (hgr.block _ (lt_of hs.2.1) (by simp)).trans hs.2.1, (hgr.block _ (lt_of hs.2.2) (by simp)).trans hs.2.2⟩
    have round : ∀ pre x W1, J pre W1 → Px pre x W1 → YieldAt F (n - 1 - 1) P L (encs x) W1 fun e W' => (e = .returned (.bool true) ∧ J (pre ++ [x]) W' ∧ Keep Kb W1 W') ∨ (e = .returned (.bool false) ∧ Jx (pre ++ [x]) W') := by
      intro pre x W1 hJ hx
      have hLlt := lt_of hJ.2.1
      have hlt1 : w.heap.size ≤ W1.heap.size := by omega
      have hDlt := lt_of hJ.2.2
      have hLa : (W1.alloc (ob x)).heap[L]? = some (.loop (R .ready none)) := (Below.heap_alloc _ _ _ hLlt).trans hJ.2.1
      have hDa : (W1.alloc (ob x)).heap[D]? = some (.deferred (some [])) := (Below.heap_alloc _ _ _ hDlt).trans hJ.2.2
      have hbx : ((W1.alloc (ob x)).putObj L (.loop { R .ready none with state := .busy })).heap[W1.heap.size]? = some (ob x) := (World.putObj_heap_other (by omega)).trans (World.alloc_heap_new W1 _)
      refine ⟨fn, _, assign, body, run_yield hJ.2.1 (hps x), roundIn_of_wpIn hfn (hassign L x W1.heap.size W1 _ rfl ⟨_, run_beginRound hLa rfl, ?_⟩)⟩
      refine wpIn_mono (hbody L pre x W1.heap.size _ (by omega) (by omega) hbx (hI.putObj _ (hI.alloc _ hJ.1) (by omega) hLa rfl) ((hPx pre x).putObj (s := ()) _ ((hPx pre x).alloc (s := ()) _ hx) (by omega) hLa rfl)) ?_
      have fin : ∀ (jump : Option Code) (W3 : World), KeepsFrom w.heap.size ((W1.alloc (ob x)).putObj L (.loop { R .ready none with state := .busy })) W3 →
          (Instr.endRound L jump).run P W3 = .ok (.bool jump.isNone) (W3.putObj L (.loop (R (if jump.isNone then .ready else .done) jump))) ∧
          (W3.putObj L (.loop (R (if jump.isNone then .ready else .done) jump))).heap[L]? = some (.loop (R (if jump.isNone then .ready else .done) jump)) ∧
          (W3.putObj L (.loop (R (if jump.isNone then .ready else .done) jump))).heap[D]? = some (.deferred (some [])) ∧
          W3.heap[L]? = some (.loop (R .busy none)) := fun jump W3 hk3 => by
        have hL3 : W3.heap[L]? = some (.loop (R .busy none)) := hk3.same L (.loop (R .busy none)) (by omega) (World.putObj_heap_same (lt_of hLa)) rfl
        have hD3 := hk3.same D (.deferred (some [])) (Nat.le_refl _) ((World.putObj_heap_other (by omega)).trans hDa) rfl
        exact ⟨run_endRound jump hL3, World.putObj_heap_same (lt_of hL3), (World.putObj_heap_other (by omega)).trans hD3, hL3⟩
      rintro e a3 W3 hp
      cases e with
      | normal =>
        obtain ⟨hkf, hkb, hi3⟩ := hp
        obtain ⟨hr, hl4, hd4, hL3⟩ := fin none W3 hkf
        exact ⟨_, _, hr, .inl ⟨rfl, ⟨hI.putObj _ hi3 (by omega) hL3 rfl, hl4, hd4⟩, (((hKal x W1 hlt1).trans (Keep.put _ nL)).trans hkb).trans (Keep.put _ nL)⟩⟩
      | ret =>
        obtain ⟨hkf, hi3⟩ := hp
        obtain ⟨hr, hl4, hd4, hL3⟩ := fin (some .ret) W3 hkf
        exact ⟨_, _, hr, .inr ⟨rfl, ⟨.ret, (hIx _).putObj _ hi3 (by omega) hL3 rfl, hl4, hd4⟩⟩⟩
      | exit id =>
        obtain ⟨hkf, hi3⟩ := hp
        obtain ⟨hr, hl4, hd4, hL3⟩ := fin (some (.exit id)) W3 hkf
        exact ⟨_, _, hr, .inr ⟨rfl, ⟨.exit id, (hIx _).putObj _ hi3 (by omega) hL3 rfl, hl4, hd4⟩⟩⟩
      | goto t => exact hp.elim
      | panic ch => exact hp.elim
      | outgrown => exact hp.elim
    refine (hit L J Jx W0 hB0 hJg hJxg round ⟨hI0, hL0, hD0⟩).mono ?_
    rintro e W2 ⟨⟨v, rfl⟩, (⟨xs, hS, hi, hL, hD⟩ | ⟨pre, c, hi, hL, hD⟩)⟩
    · exact ⟨none, _, run_endLoop hL (by simp [R]), hdone D xs _ (Nat.le_refl _) hS (hI.putObj _ hi (by omega) hL rfl) ((World.putObj_heap_other (by omega)).trans hD)⟩
    · exact ⟨some c, _, run_endLoop hL (by simp [R]), hstop D c pre _ (Nat.le_refl _) ((hIx c).putObj _ hi (by omega) hL rfl) ((World.putObj_heap_other (by omega)).trans hD)⟩

end Go.Proofs.YtdjodigimhgklaaGreatDoor

/- A region that only reads, in a round of a range over a function: it goes as it goes outside of one. Of no program. -/
namespace Go.Proofs.YtdjodigimhgklaaGreatDoor
open Go.RowKit Go.Shelf

def noDefer (o : Oper) : Bool := match o.op with
  | .defer _ => false
  | _ => true
theorem noDefer_ne {o : Oper} (h : noDefer o = true) (c : Call) : o.op ≠ .defer c := fun e => by unfold noDefer at h; rw [e] at h; cases h

theorem oper_round {F : Fence} {n : Nat} {P : Program} {o : Oper} {a : Act} {w : World} {K : Act → World → Prop} {Q : Exit → Act → World → Prop} (r : Nat) (hro : F.round = none) (hd : noDefer o = true) (h : o.wpIn F n P a w K Q) : o.wpIn (F.inRound r) n P a w K Q := by
  refine ⟨h.1, ?_⟩
  have h2 := h.2
  rw [hro, Oper.semAt_none] at h2
  rw [Fence.inRound_round, Oper.semAt_some r _ _ (noDefer_ne hd)]
  generalize (execOp a.eval o).run P w = x at h2 ⊢
  cases x with
  | ok x w' => cases x <;> exact h2
  | halt x w' => cases x <;> exact h2

theorem any_round {F : Fence} {n : Nat} {P : Program} {md : Region.Mode} {ops : Array Oper} {Q : Exit → Act → World → Prop} (r : Nat) (hro : F.round = none) (hd : ∀ (i : Nat) o, ops[i]? = some o → noDefer o = true) :
    ∀ (fuel : Nat) (listed : Array Bool) (a : Act) (w : World), wpAnyIn F n P md ops Q fuel listed a w → wpAnyIn (F.inRound r) n P md ops Q fuel listed a w
  | 0, _, _, _, h => h
  | fuel + 1, listed, a, w, h => by
    refine ⟨h.1, fun i hi => ?_⟩
    have hk := h.2 i hi
    unfold wpOpIn at hk ⊢
    cases ho : ops[i]? with
    | none =>
      rw [ho] at hk
      exact any_round r hro hd fuel _ a w hk
    | some o =>
      rw [ho] at hk
      simp only at hk ⊢
      split at hk
      · rename_i hw
        rw [if_pos hw]
        exact Oper.wpIn_mono (fun a w => any_round r hro hd fuel _ a w) (oper_round r hro (hd i o ho) hk)
      · rename_i hw
        rw [if_neg hw]
        exact ⟨hk.1, any_round r hro hd fuel _ _ w hk.2⟩

theorem region_quiet_round {F : Fence} {n : Nat} {P : Program} {id : Nat} {Q : Exit → Act → World → Prop} {a : Act} {w : World} {l : List Oper} {r : Nat} (hro : F.round = none) (hm : P.follows .mixedOrders = true) (hB : Region.lexB .any l.toArray = true) (hd : l.all noDefer = true)
    (h : wpQuietIn F n P l.toArray (fun w' => ∃ n, w' = w.drewN n) (fun a' => ∀ w', (∃ n, w' = w.drewN n) → Q .normal a' w') l a) : (Code.region id l.toArray true).wpIn (F.inRound r) n P Q a w := by
  simp only [Region.lexB, Bool.and_eq_true] at hB
  refine wpIn_region_any hm (any_round r hro (fun i o ho => ?_) _ _ _ _ (wpAnyIn_of_quiet (Q := fun a' => ∀ w', (∃ n, w' = w.drewN n) → Q .normal a' w') (C := fun w' => ∃ n, w' = w.drewN n) hro (fun _ w' hw' h => h w' hw') _ _ _ _ ⟨1, rfl⟩ ?_))
  · rw [List.all_eq_true] at hd
    refine hd o ?_
    have : l[i]? = some o := by simpa using ho
    exact List.mem_of_getElem? this
  · have := wpAnyQIn_lex (F := F) (n := n) (P := P) (C := fun w' => ∃ n, w' = w.drewN n) (Q := fun a' => ∀ w', (∃ n, w' = w.drewN n) → Q .normal a' w') (md := .any) hB.1 l.toArray.toList 0 (Array.replicate l.toArray.size false) a (by simp) (by simpa using hB.2) (by simpa using h)
    simpa using this

end Go.Proofs.YtdjodigimhgklaaGreatDoor

/- The walks of a Reader's Uint. -/
namespace Go.Proofs.YtdjodigimhgklaaGreatDoor
open Go.RowKit

theorem uint_nil (w : World) : Calls Tryz.prog 123 #[.pointer none] w fun e w' => e = .returned (.int .u64 0) ∧ w' = w := by
  go_enter Tryz.func123, Tryz.ntmps123
  go_wp2_with fail
  refine (stuck_nil _).mono ?_
  rintro e w1 ⟨rfl, rfl⟩
  go_wp2
  go_ret
  exact ⟨rfl, rfl⟩

theorem uint_stuck (w : World) (r g p : Nat) (x : Int) (l : List UInt8) (h : Rd w r g p x l) (hx : (x != 0) = true) :
    Calls Tryz.prog 123 #[.pointer (some ⟨r, 0, none⟩)] w fun e w' => e = .returned (.int .u64 0) ∧ w' = w := by
  go_enter Tryz.func123, Tryz.ntmps123
  go_wp2_with fail
  refine (stuck_yes _ r x h.c1 hx).mono ?_
  rintro e w1 ⟨rfl, rfl⟩
  go_wp2
  go_ret
  exact ⟨rfl, rfl⟩

set_option maxHeartbeats 400000 in
theorem uint_yes (w : World) (r g p : Nat) (l : List UInt8) (h : Rd w r g p 0 l) (hn : (num (l.drop p)).2.2 = 0) :
    Calls Tryz.prog 123 #[.pointer (some ⟨r, 0, none⟩)] w fun e w' => e = .returned (.int .u64 (num (l.drop p)).1) ∧ Rd w' r g (p + (num (l.drop p)).2.1) 0 l ∧ w.grownBy w' (some r) := by
  have hp := h.hp
  have hl := h.hl
  have hle := num_le (l.drop p)
  rw [List.length_drop] at hle
  unfold maxLen at hl
  obtain ⟨m, hm⟩ : ∃ m, l.length = p + m := ⟨l.length - p, by omega⟩
  obtain ⟨x, k, e, hnum⟩ : ∃ x k e, num (l.drop p) = (x, k, e) := ⟨_, _, _, rfl⟩
  have hkm : k ≤ m := by rw [hnum] at hle; simp only at hle; omega
  have Hm : Hid (l.length = p + m) := hm
  have Hnum : Hid (num (l.drop p) = (x, k, e)) := hnum
  have hpm : p + m ≤ 9223372036854775807 := by omega
  rw [hnum] at hn
  simp only at hn
  subst hn
  rw [hnum]
  clear hm hnum hle hl hp
  go_enter Tryz.func123, Tryz.ntmps123
  go_wp2_with fail
  refine (stuck_no _ r h.c1).mono ?_
  rintro e w1 ⟨rfl, rfl⟩
  go_wp2_with fail
  refine (rest_any _ r g p m 0 l h Hm.out).mono ?_
  rintro e w2 ⟨q, j, rfl, hb, rfl⟩
  go_wp2_with fail
  refine (shortForm_any _ m m (l.drop p) _ (hb.drewN j) (by unfold maxLen; omega)).mono ?_
  rw [Hnum.out]
  rintro e w3 ⟨rfl, rfl⟩
  go_wp2_with fail
  refine (settle_yes _ r p k (h.drewN j).c0 (h.drewN j).f0 (by omega) (by omega) (by omega)).mono ?_
  rintro e w4 ⟨rfl, rfl⟩
  go_wp2
  go_ret
  exact ⟨rfl, (h.drewN j).setAt (p + k) (by have := Hm.out; omega), grownBy_trans (grownBy_drewN _ _ _) (grownBy_setCell _ _ _ _)⟩

set_option maxHeartbeats 400000 in
theorem uint_no (w : World) (r g p : Nat) (l : List UInt8) (h : Rd w r g p 0 l) (hn : ((num (l.drop p)).2.2 != 0) = true) :
    Calls Tryz.prog 123 #[.pointer (some ⟨r, 0, none⟩)] w fun e w' => e = .returned (.int .u64 0) ∧ Rd w' r g p (num (l.drop p)).2.2 l ∧ w.grownBy w' (some r) := by
  have hp := h.hp
  have hl := h.hl
  unfold maxLen at hl
  obtain ⟨m, hm⟩ : ∃ m, l.length = p + m := ⟨l.length - p, by omega⟩
  obtain ⟨x, k, e, hnum⟩ : ∃ x k e, num (l.drop p) = (x, k, e) := ⟨_, _, _, rfl⟩
  have Hm : Hid (l.length = p + m) := hm
  have Hnum : Hid (num (l.drop p) = (x, k, e)) := hnum
  have hpm : p + m ≤ 9223372036854775807 := by omega
  rw [hnum] at hn
  simp only at hn
  rw [hnum]
  clear hm hnum hl hp
  go_enter Tryz.func123, Tryz.ntmps123
  go_wp2_with fail
  refine (stuck_no _ r h.c1).mono ?_
  rintro e w1 ⟨rfl, rfl⟩
  go_wp2_with fail
  refine (rest_any _ r g p m 0 l h Hm.out).mono ?_
  rintro e w2 ⟨q, j, rfl, hb, rfl⟩
  go_wp2_with fail
  refine (shortForm_any _ m m (l.drop p) _ (hb.drewN j) (by unfold maxLen; omega)).mono ?_
  rw [Hnum.out]
  rintro e w3 ⟨rfl, rfl⟩
  go_wp2_with fail
  refine (settle_no _ r k _ _ (h.drewN j).c1 (h.drewN j).f1 hn).mono ?_
  rintro e w4 ⟨rfl, rfl⟩
  go_wp2
  go_ret
  exact ⟨rfl, (h.drewN j).setErr _, grownBy_trans (grownBy_drewN _ _ _) (grownBy_setCell _ _ _ _)⟩

end Go.Proofs.YtdjodigimhgklaaGreatDoor
