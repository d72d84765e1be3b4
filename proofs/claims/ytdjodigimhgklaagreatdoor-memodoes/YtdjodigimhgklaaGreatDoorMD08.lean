import Derived.Test.YtdjodigimhgklaaGreatDoorMD07
import Derived.Sort.BigQuietIn
import Derived.Test.YtdjodigimhgklaaGreatDoorMD06
import Derived.Test.YtdjodigimhgklaaGreatDoorMD03
import Derived.Test.YtdjodigimhgklaaGreatDoorMD01
/- A range over a function whose body may leave it, where the assignment of the values that are handed in makes a box for them (a struct's own variable). Of no program; no law of the library says it. -/
namespace Go.Proofs.YtdjodigimhgklaaGreatDoor
open Go.RowKit Go.Shelf

theorem range_boxed {α : Type} {F : Fence} {n : Nat} {P : Program} {g : Operand} {ps : Array Tmp} {assign body : Code} {Q : Exit → Act → World → Prop} {a : Act} {w : World}
    (hro : F.round = none) (h1 : 1 ≤ n) {gf : Nat} {lb : Array Value} (hg : a.eval g = .func (.func gf) #[] lb) (hFg : F.fn gf) (eg : ∀ args w, (callFunc gf args).run P w = .ok (.enter gf args) w)
    {encs : α → Array Value} {Px : List α → α → World → Prop} {Kb : Nat → Prop} {S : List α → Prop} (hit : TellsB F (n - 1) P gf lb encs Px Kb S w) (hps : ∀ x, (encs x).size = ps.size) (hKb : ∀ k, Kb k → k < w.heap.size)
    (I : List α → World → Prop) (Ix : Code → List α → World → Prop) (hI : OwnFrom w.heap.size I) (hIx : ∀ c, OwnFrom w.heap.size (Ix c)) (hPx : ∀ pre x, OwnFrom w.heap.size (fun (_ : Unit) W => Px pre x W)) (h0 : I [] w) (ob : α → Obj) (a₁ : α → Nat → Act)
    (hassign : ∀ (l : Nat) (x : α) (b : Nat) (W : World) (K : Act → World → Prop), W.heap.size = b → K (a₁ x b) (W.alloc (ob x)) →
      assign.wpIn (F.inRound l) (n - 1 - 1) P (Exit.then K (fun _ _ _ => False)) { tmps := (ps.zip (encs x)).foldl (fun t (p, v) => t.setIfInBounds p v) a.tmps, defers := [] } W)
    (hbody : ∀ (l : Nat) (pre : List α) (x : α) (bx : Nat) (W : World), w.heap.size ≤ l → w.heap.size ≤ bx → W.heap[bx]? = some (ob x) → I pre W → Px pre x W → body.wpIn (F.inRound l) (n - 1 - 1) P (bothPost w.heap.size Kb I Ix (pre ++ [x]) W) (a₁ x bx) W)
    (hdone : ∀ (D : Nat) (xs : List α) (W : World), w.heap.size ≤ D → S xs → I xs W → W.heap[D]? = some (.deferred (some [])) → Q .normal { a with defers := { target := .collected D, args := #[] } :: a.defers } W)
    (hstop : ∀ (D : Nat) (c : Code) (pre : List α) (W : World), w.heap.size ≤ D → Ix c pre W → W.heap[D]? = some (.deferred (some [])) → c.wpIn F n P Q { a with defers := { target := .collected D, args := #[] } :: a.defers } W) :
    (Code.rangeFunc g ps assign body).wpIn F n P Q a w := by
  refine wpIn_rangeFunc fun fn hfn => ?_
  rw [hro]
  let R : LoopState → Option Code → Loop := fun st pe => { state := st, pending := pe, fn := fn, tmps := a.tmps, params := ps, assign := assign, body := body, defers := w.heap.size }
  let D := w.heap.size
  let L := w.heap.size + 1
  let W0 := (w.alloc (.deferred (some []))).alloc (.loop (R .ready none))
  have hD0 : W0.heap[D]? = some (.deferred (some [])) := (Below.heap_alloc _ _ _ (by simp [D])).trans (World.alloc_heap_new w _)
  have hL0 : W0.heap[L]? = some (.loop (R .ready none)) := by
    have := World.alloc_heap_new (w.alloc (.deferred (some []))) (.loop (R .ready none))
    rwa [World.size_alloc] at this
  have hB0 : Below w.heap.size w W0 := ((Below.refl _ w).alloc (Nat.le_refl _) _).alloc (by simp) _
  have hI0 : I [] W0 := hI.alloc _ (hI.alloc _ h0)
  have nL : ¬ Kb L := fun h => by have := hKb _ h; omega
  have hKal : ∀ (x : α) (X : World), w.heap.size ≤ X.heap.size → Keep Kb X (X.alloc (ob x)) := fun x X hX => ⟨by simp, fun k hk => Below.heap_alloc _ _ _ (by have := hKb k hk; omega)⟩
  refine ⟨L, [{ target := .collected D, args := #[] }], W0, { target := .fn (.func gf) lb, args := #[.func (.yield L) #[] #[]] }, W0, gf, #[.func (.yield L) #[] #[]] ++ lb, W0, run_enterLoop_outer _ _ _ _ _, ?_, ?_, ?_, fun _ => h1, ?_⟩
  · simp only [resolve, hg]
    simp [go_sem]
  · intro f' hf'
    simp [Target.leads] at hf'
    exact hf' ▸ hFg
  · simp [invoke, go_sem, eg]
  · let J : List α → World → Prop := fun pre W => I pre W ∧ W.heap[L]? = some (.loop (R .ready none)) ∧ W.heap[D]? = some (.deferred (some []))
    let Jx : List α → World → Prop := fun pre W => ∃ c, Ix c pre W ∧ W.heap[L]? = some (.loop (R .done (some c))) ∧ W.heap[D]? = some (.deferred (some []))
    have lt_of : ∀ {W : World} {k : Nat} {o : Obj}, W.heap[k]? = some o → k < W.heap.size := fun h => (Array.getElem?_eq_some_iff.1 h).1
    have hJg : ∀ s X Y, J s X → X.grownBy Y none → J s Y := fun s X Y hs hgr =>
      ⟨hI s X Y none hs.1 hgr (by simp), (hgr.block _ (lt_of hs.2.1) (by simp)).trans hs.2.1, (hgr.block _ (lt_of hs.2.2) (by simp)).trans hs.2.2⟩
    have hJxg : ∀ s X Y, Jx s X → X.grownBy Y none → Jx s Y := fun s X Y ⟨c, hs⟩ hgr =>
      ⟨c, hIx c s X Y none hs.1 hgr (by simp), (hgr.block _ (lt_of hs.2.1) (by simp)).trans hs.2.1, (hgr.block _ (lt_of hs.2.2) (by simp)).trans hs.2.2⟩
    have round : ∀ pre x W1, J pre W1 → Px pre x W1 → YieldAt F (n - 1 - 1) P L (encs x) W1 fun e W' => (e = .returned (.bool true) ∧ J (pre ++ [x]) W' ∧ Keep Kb W1 W') ∨ (e = .returned (.bool false) ∧ Jx (pre ++ [x]) W') := by
      intro pre x W1 hJ hx
      have hLlt := lt_of hJ.2.1
      have hlt1 : w.heap.size ≤ W1.heap.size := by omega
      have hDlt := lt_of hJ.2.2
      have hLa : (W1.alloc (ob x)).heap[L]? = some (.loop (R .ready none)) := (Below.heap_alloc _ _ _ hLlt).trans hJ.2.1
      have hDa : (W1.alloc (ob x)).heap[D]? = some (.deferred (some [])) := (Below.heap_alloc _ _ _ hDlt).trans hJ.2.2
      have hbx : ((W1.alloc (ob x)).putObj L (.loop { R .ready none with state := .busy })).heap[W1.heap.size]? = some (ob x) := (World.putObj_heap_other (by omega)).trans (World.alloc_heap_new W1 _)
      refine ⟨fn, _, assign, body, run_yield hJ.2.1 (hps x), roundIn_of_wpIn hfn (hassign L x W1.heap.size W1 _ rfl ⟨_, run_beginRound hLa rfl, ?_⟩)⟩
      refine wpIn_mono (hbody L pre x W1.heap.size _ (by omega) (by omega) hbx (hI.putObj _ (hI.alloc _ hJ.1) (by omega) hLa rfl) ((hPx pre x).putObj (s := ()) _ ((hPx pre x).alloc (s := ()) _ hx) (by omega) hLa rfl)) ?_
      have fin : ∀ (jump : Option Code) (W3 : World), KeepsFrom w.heap.size ((W1.alloc (ob x)).putObj L (.loop { R .ready none with state := .busy })) W3 →
          (Instr.endRound L jump).run P W3 = .ok (.bool jump.isNone) (W3.putObj L (.loop (R (if jump.isNone then .ready else .done) jump))) ∧
          (W3.putObj L (.loop (R (if jump.isNone then .ready else .done) jump))).heap[L]? = some (.loop (R (if jump.isNone then .ready else .done) jump)) ∧
          (W3.putObj L (.loop (R (if jump.isNone then .ready else .done) jump))).heap[D]? = some (.deferred (some [])) ∧
          W3.heap[L]? = some (.loop (R .busy none)) := fun jump W3 hk3 => by
        have hL3 : W3.heap[L]? = some (.loop (R .busy none)) := hk3.same L (.loop (R .busy none)) (by omega) (World.putObj_heap_same (lt_of hLa)) rfl
        have hD3 := hk3.same D (.deferred (some [])) (Nat.le_refl _) ((World.putObj_heap_other (by omega)).trans hDa) rfl
        exact ⟨run_endRound jump hL3, World.putObj_heap_same (lt_of hL3), (World.putObj_heap_other (by omega)).trans hD3, hL3⟩
      rintro e a3 W3 hp
      cases e with
      | normal =>
        obtain ⟨hkf, hkb, hi3⟩ := hp
        obtain ⟨hr, hl4, hd4, hL3⟩ := fin none W3 hkf
        exact ⟨_, _, hr, .inl ⟨rfl, ⟨hI.putObj _ hi3 (by omega) hL3 rfl, hl4, hd4⟩, (((hKal x W1 hlt1).trans (Keep.put _ nL)).trans hkb).trans (Keep.put _ nL)⟩⟩
      | ret =>
        obtain ⟨hkf, hi3⟩ := hp
        obtain ⟨hr, hl4, hd4, hL3⟩ := fin (some .ret) W3 hkf
        exact ⟨_, _, hr, .inr ⟨rfl, ⟨.ret, (hIx _).putObj _ hi3 (by omega) hL3 rfl, hl4, hd4⟩⟩⟩
      | exit id =>
        obtain ⟨hkf, hi3⟩ := hp
        obtain ⟨hr, hl4, hd4, hL3⟩ := fin (some (.exit id)) W3 hkf
        exact ⟨_, _, hr, .inr ⟨rfl, ⟨.exit id, (hIx _).putObj _ hi3 (by omega) hL3 rfl, hl4, hd4⟩⟩⟩
      | goto t => exact hp.elim
      | panic ch => exact hp.elim
      | outgrown => exact hp.elim
    refine (hit L J Jx W0 hB0 hJg hJxg round ⟨hI0, hL0, hD0⟩).mono ?_
    rintro e W2 ⟨⟨v, rfl⟩, (⟨xs, hS, hi, hL, hD⟩ | ⟨pre, c, hi, hL, hD⟩)⟩
    · exact ⟨none, _, run_endLoop hL (by simp [R]), hdone D xs _ (Nat.le_refl _) hS (hI.putObj _ hi (by omega) hL rfl) ((World.putObj_heap_other (by omega)).trans hD)⟩
    · exact ⟨some c, _, run_endLoop hL (by simp [R]), hstop D c pre _ (Nat.le_refl _) ((hIx c).putObj _ hi (by omega) hL rfl) ((World.putObj_heap_other (by omega)).trans hD)⟩

end Go.Proofs.YtdjodigimhgklaaGreatDoor

/- A region that only reads, in a round of a range over a function: it goes as it goes outside of one. Of no program. -/
namespace Go.Proofs.YtdjodigimhgklaaGreatDoor
open Go.RowKit Go.Shelf

def noDefer (o : Oper) : Bool := match o.op with
  | .defer _ => false
  | _ => true
theorem noDefer_ne {o : Oper} (h : noDefer o = true) (c : Call) : o.op ≠ .defer c := fun e => by unfold noDefer at h; rw [e] at h; cases h

theorem oper_round {F : Fence} {n : Nat} {P : Program} {o : Oper} {a : Act} {w : World} {K : Act → World → Prop} {Q : Exit → Act → World → Prop} (r : Nat) (hro : F.round = none) (hd : noDefer o = true) (h : o.wpIn F n P a w K Q) : o.wpIn (F.inRound r) n P a w K Q := by
  refine ⟨h.1, ?_⟩
  have h2 := h.2
  rw [hro, Oper.semAt_none] at h2
  rw [Fence.inRound_round, Oper.semAt_some r _ _ (noDefer_ne hd)]
  generalize (execOp a.eval o).run P w = x at h2 ⊢
  cases x with
  | ok x w' => cases x <;> exact h2
  | halt x w' => cases x <;> exact h2

theorem any_round {F : Fence} {n : Nat} {P : Program} {md : Region.Mode} {ops : Array Oper} {Q : Exit → Act → World → Prop} (r : Nat) (hro : F.round = none) (hd : ∀ (i : Nat) o, ops[i]? = some o → noDefer o = true) :
    ∀ (fuel : Nat) (listed : Array Bool) (a : Act) (w : World), wpAnyIn F n P md ops Q fuel listed a w → wpAnyIn (F.inRound r) n P md ops Q fuel listed a w
  | 0, _, _, _, h => h
  | fuel + 1, listed, a, w, h => by
    refine ⟨h.1, fun i hi => ?_⟩
    have hk := h.2 i hi
    unfold wpOpIn at hk ⊢
    cases ho : ops[i]? with
    | none =>
      rw [ho] at hk
      exact any_round r hro hd fuel _ a w hk
    | some o =>
      rw [ho] at hk
      simp only at hk ⊢
      split at hk
      · rename_i hw
        rw [if_pos hw]
        exact Oper.wpIn_mono (fun a w => any_round r hro hd fuel _ a w) (oper_round r hro (hd i o ho) hk)
      · rename_i hw
        rw [if_neg hw]
        exact ⟨hk.1, any_round r hro hd fuel _ _ w hk.2⟩

theorem region_quiet_round {F : Fence} {n : Nat} {P : Program} {id : Nat} {Q : Exit → Act → World → Prop} {a : Act} {w : World} {l : List Oper} {r : Nat} (hro : F.round = none) (hm : P.follows .mixedOrders = true) (hB : Region.lexB .any l.toArray = true) (hd : l.all noDefer = true)
    (h : wpQuietIn F n P l.toArray (fun w' => ∃ n, w' = w.drewN n) (fun a' => ∀ w', (∃ n, w' = w.drewN n) → Q .normal a' w') l a) : (Code.region id l.toArray true).wpIn (F.inRound r) n P Q a w := by
  simp only [Region.lexB, Bool.and_eq_true] at hB
  refine wpIn_region_any hm (any_round r hro (fun i o ho => ?_) _ _ _ _ (wpAnyIn_of_quiet (Q := fun a' => ∀ w', (∃ n, w' = w.drewN n) → Q .normal a' w') (C := fun w' => ∃ n, w' = w.drewN n) hro (fun _ w' hw' h => h w' hw') _ _ _ _ ⟨1, rfl⟩ ?_))
  · rw [List.all_eq_true] at hd
    refine hd o ?_
    have : l[i]? = some o := by simpa using ho
    exact List.mem_of_getElem? this
  · have := wpAnyQIn_lex (F := F) (n := n) (P := P) (C := fun w' => ∃ n, w' = w.drewN n) (Q := fun a' => ∀ w', (∃ n, w' = w.drewN n) → Q .normal a' w') (md := .any) hB.1 l.toArray.toList 0 (Array.replicate l.toArray.size false) a (by simp) (by simpa using hB.2) (by simpa using h)
    simpa using this

end Go.Proofs.YtdjodigimhgklaaGreatDoor

/- The walks of a Reader's Uint. -/
namespace Go.Proofs.YtdjodigimhgklaaGreatDoor
open Go.RowKit

theorem uint_nil (w : World) : Calls Tryz.prog 123 #[.pointer none] w fun e w' => e = .returned (.int .u64 0) ∧ w' = w := by
  go_enter Tryz.func123, Tryz.ntmps123
  go_wp2_with fail
  refine (stuck_nil _).mono ?_
  rintro e w1 ⟨rfl, rfl⟩
  go_wp2
  go_ret
  exact ⟨rfl, rfl⟩

theorem uint_stuck (w : World) (r g p : Nat) (x : Int) (l : List UInt8) (h : Rd w r g p x l) (hx : (x != 0) = true) :
    Calls Tryz.prog 123 #[.pointer (some ⟨r, 0, none⟩)] w fun e w' => e = .returned (.int .u64 0) ∧ w' = w := by
  go_enter Tryz.func123, Tryz.ntmps123
  go_wp2_with fail
  refine (stuck_yes _ r x h.c1 hx).mono ?_
  rintro e w1 ⟨rfl, rfl⟩
  go_wp2
  go_ret
  exact ⟨rfl, rfl⟩

set_option maxHeartbeats 400000 in
theorem uint_yes (w : World) (r g p : Nat) (l : List UInt8) (h : Rd w r g p 0 l) (hn : (num (l.drop p)).2.2 = 0) :
    Calls Tryz.prog 123 #[.pointer (some ⟨r, 0, none⟩)] w fun e w' => e = .returned (.int .u64 (num (l.drop p)).1) ∧ Rd w' r g (p + (num (l.drop p)).2.1) 0 l ∧ w.grownBy w' (some r) := by
  have hp := h.hp
  have hl := h.hl
  have hle := num_le (l.drop p)
  rw [List.length_drop] at hle
  unfold maxLen at hl
  obtain ⟨m, hm⟩ : ∃ m, l.length = p + m := ⟨l.length - p, by omega⟩
  obtain ⟨x, k, e, hnum⟩ : ∃ x k e, num (l.drop p) = (x, k, e) := ⟨_, _, _, rfl⟩
  have hkm : k ≤ m := by rw [hnum] at hle; simp only at hle; omega
  have Hm : Hid (l.length = p + m) := hm
  have Hnum : Hid (num (l.drop p) = (x, k, e)) := hnum
  have hpm : p + m ≤ 9223372036854775807 := by omega
  rw [hnum] at hn
  simp only at hn
  subst hn
  rw [hnum]
  clear hm hnum hle hl hp
  go_enter Tryz.func123, Tryz.ntmps123
  go_wp2_with fail
  refine (stuck_no _ r h.c1).mono ?_
  rintro e w1 ⟨rfl, rfl⟩
  go_wp2_with fail
  refine (rest_any _ r g p m 0 l h Hm.out).mono ?_
  rintro e w2 ⟨q, j, rfl, hb, rfl⟩
  go_wp2_with fail
  refine (shortForm_any _ m m (l.drop p) _ (hb.drewN j) (by unfold maxLen; omega)).mono ?_
  rw [Hnum.out]
  rintro e w3 ⟨rfl, rfl⟩
  go_wp2_with fail
  refine (settle_yes _ r p k (h.drewN j).c0 (h.drewN j).f0 (by omega) (by omega) (by omega)).mono ?_
  rintro e w4 ⟨rfl, rfl⟩
  go_wp2
  go_ret
  exact ⟨rfl, (h.drewN j).setAt (p + k) (by have := Hm.out; omega), grownBy_trans (grownBy_drewN _ _ _) (grownBy_setCell _ _ _ _)⟩

set_option maxHeartbeats 400000 in
theorem uint_no (w : World) (r g p : Nat) (l : List UInt8) (h : Rd w r g p 0 l) (hn : ((num (l.drop p)).2.2 != 0) = true) :
    Calls Tryz.prog 123 #[.pointer (some ⟨r, 0, none⟩)] w fun e w' => e = .returned (.int .u64 0) ∧ Rd w' r g p (num (l.drop p)).2.2 l ∧ w.grownBy w' (some r) := by
  have hp := h.hp
  have hl := h.hl
  unfold maxLen at hl
  obtain ⟨m, hm⟩ : ∃ m, l.length = p + m := ⟨l.length - p, by omega⟩
  obtain ⟨x, k, e, hnum⟩ : ∃ x k e, num (l.drop p) = (x, k, e) := ⟨_, _, _, rfl⟩
  have Hm : Hid (l.length = p + m) := hm
  have Hnum : Hid (num (l.drop p) = (x, k, e)) := hnum
  have hpm : p + m ≤ 9223372036854775807 := by omega
  rw [hnum] at hn
  simp only at hn
  rw [hnum]
  clear hm hnum hl hp
  go_enter Tryz.func123, Tryz.ntmps123
  go_wp2_with fail
  refine (stuck_no _ r h.c1).mono ?_
  rintro e w1 ⟨rfl, rfl⟩
  go_wp2_with fail
  refine (rest_any _ r g p m 0 l h Hm.out).mono ?_
  rintro e w2 ⟨q, j, rfl, hb, rfl⟩
  go_wp2_with fail
  refine (shortForm_any _ m m (l.drop p) _ (hb.drewN j) (by unfold maxLen; omega)).mono ?_
  rw [Hnum.out]
  rintro e w3 ⟨rfl, rfl⟩
  go_wp2_with fail
  refine (settle_no _ r k _ _ (h.drewN j).c1 (h.drewN j).f1 hn).mono ?_
  rintro e w4 ⟨rfl, rfl⟩
  go_wp2
  go_ret
  exact ⟨rfl, (h.drewN j).setErr _, grownBy_trans (grownBy_drewN _ _ _) (grownBy_setCell _ _ _ _)⟩

end Go.Proofs.YtdjodigimhgklaaGreatDoor

/- The walks of the program's digits. -/
namespace Go.Proofs.YtdjodigimhgklaaGreatDoor
open Go.RowKit

theorem digitValue_yes (c : Int) (w : World) (h0 : 0 ≤ c) (h1 : c ≤ 255) (hd : dig c ≤ 15) :
    Calls Tryz.prog 134 #[.int .u8 c] w fun e w' => e = .returned (.tuple #[.int .u8 (dig c), .bool true]) ∧ w' = w := by
  unfold dig at hd ⊢
  by_cases h : 48 ≤ c ∧ c ≤ 57
  · rw [if_pos h]
    obtain ⟨ha, hb⟩ := h
    clear hd
    go_enter Tryz.func134, Tryz.ntmps134
    go_wp2
    go_ret2
    exact ⟨rfl, rfl⟩
  · rw [if_neg h] at hd ⊢
    by_cases h2 : 97 ≤ c ∧ c ≤ 102
    · rw [if_pos h2]
      obtain ⟨ha, hb⟩ := h2
      clear hd h
      have e : c - 97 + 10 = c - 87 := by omega
      go_enter Tryz.func134, Tryz.ntmps134
      go_wp2
      go_ret2
      exact ⟨rfl, rfl⟩
    · rw [if_neg h2] at hd
      omega

theorem digitValue_no (c : Int) (w : World) (h0 : 0 ≤ c) (h1 : c ≤ 255) (hd : ¬ dig c ≤ 15) :
    Calls Tryz.prog 134 #[.int .u8 c] w fun e w' => e = .returned (.tuple #[.int .u8 0, .bool false]) ∧ w' = w := by
  have hn : c < 48 ∨ (57 < c ∧ c < 97) ∨ 102 < c := by
    unfold dig at hd
    by_cases h : 48 ≤ c ∧ c ≤ 57
    · rw [if_pos h] at hd; omega
    · rw [if_neg h] at hd
      by_cases h2 : 97 ≤ c ∧ c ≤ 102
      · rw [if_pos h2] at hd; omega
      · omega
  clear hd
  rcases hn with h | ⟨h, h'⟩ | h
  all_goals
    go_enter Tryz.func134, Tryz.ntmps134
    go_wp2
    go_ret2
    exact ⟨rfl, rfl⟩

theorem digit_any (v : Nat) (w : World) (h : v < 16) :
    Calls Tryz.prog 120 #[.int .u8 v] w fun e w' => e = .returned (.int .u8 (hexd v)) ∧ w' = w := by
  by_cases h10 : v < 10
  · have e : ((hexd v : Nat) : Int) = 48 + (v : Int) := by unfold hexd; rw [if_pos h10]; omega
    rw [e]
    clear e
    go_enter Tryz.func120, Tryz.ntmps120
    go_wp2
    go_ret
    exact ⟨rfl, rfl⟩
  · have e : ((hexd v : Nat) : Int) = 97 + ((v : Int) - 10) := by unfold hexd; rw [if_neg h10]; omega
    rw [e]
    clear e
    go_enter Tryz.func120, Tryz.ntmps120
    go_wp2
    go_ret
    exact ⟨rfl, rfl⟩

set_option maxHeartbeats 400000 in
theorem unhex_len (s : ByteArray) (w : World) (h : ((s.size : Int) != 16) = true) :
    Calls Tryz.prog 94 #[.string s] w fun e w' => e = .returned (.tuple #[.int .u64 0, .int .i64 8]) ∧ w' = w := by
  go_enter Tryz.func94, Tryz.ntmps94
  go_wp2
  go_ret2
  exact ⟨rfl, rfl⟩

set_option maxHeartbeats 400000 in
theorem unhex_any (s : ByteArray) (w : World) (h : s.size = 16) :
    Calls Tryz.prog 94 #[.string s] w fun e w' => ((hexOK s.data.toList → e = .returned (.tuple #[.int .u64 (unhexTo s.data.toList 16), .int .i64 0])) ∧ (¬ hexOK s.data.toList → e = .returned (.tuple #[.int .u64 0, .int .i64 8]))) ∧ w' = w := by
  have hl : s.data.toList.length = 16 := by simpa using h
  have hs : ((s.size : Int) != 16) = false := by rw [h]; rfl
  have Hs : Hid (s.size = 16) := h
  have hs1 : s.size ≤ 16 := by omega
  have hs2 : 16 ≤ s.size := by omega
  have HP : Hid (hexOK s.data.toList ↔ ∀ j, j < 16 → dig (bt s.data.toList j) ≤ 15) := ⟨fun k => k.2, fun k => ⟨hl, k⟩⟩
  clear h hl
  have HB : Hid (∀ k, (hk : k < s.size) → (s[k].toNat : Int) = bt s.data.toList k) := fun k hk => str_bt s k hk
  generalize s.data.toList = l at *
  go_enter Tryz.func94, Tryz.ntmps94
  go_wp2
  go_loop [4, 13] (fun x i => ∃ k : Nat, k ≤ 16 ∧ i = .int .i64 k ∧ x = .int .u64 (unhexTo l k) ∧ Hid (∀ j, j < k → dig (bt l j) ≤ 15)) (fun _ i => 16 - (intOf i).toNat)
  case atStart => exact ⟨0, Nat.zero_le _, rfl, rfl, fun j hj => by omega⟩
  case round =>
    obtain ⟨k, hk, rfl, rfl, HK⟩ := hrel
    by_cases hlt : k < s.size
    · have hbk := HB.out k hlt
      have HBk : Hid ((s[k].toNat : Int) = bt l k) := hbk
      clear hbk
      have b0 := bt_lo l k
      have b1 := bt_hi l k
      by_cases hd : dig (bt l k) ≤ 15
      · have h0 := unhexTo_lo l k
        have h1 : unhexTo l k < 1152921504606846976 := by
          have := unhexTo_hi l k HK.out
          have := pow16_15 k (by omega)
          omega
        have d0 := dig_lo (bt l k)
        have HO : Hid (bits BinOp.or IntKind.u64 (unhexTo l k * 16) (dig (bt l k)) = unhexTo l (k + 1)) := by
          rw [shl4 _ _ h0 h1 d0 hd, unhexTo_succ]; rfl
        go_wp2_with fail
        rw [HBk.out]
        refine (digitValue_yes _ _ b0 b1 hd).mono ?_
        rintro e w1 ⟨rfl, rfl⟩
        go_wp2
        go_round
        case rel =>
          refine ⟨k + 1, by omega, by go_num, by rw [HO.out], fun j hj => ?_⟩
          by_cases hjk : j < k
          · exact HK.out j hjk
          · obtain rfl : j = k := by omega
            exact hd
        case measure => simp [intOf]; omega
      · go_wp2_with fail
        rw [HBk.out]
        refine (digitValue_no _ _ b0 b1 (by omega)).mono ?_
        rintro e w1 ⟨rfl, rfl⟩
        go_wp2
        go_ret2
        exact ⟨⟨fun hok => absurd (HP.out.1 hok k (by omega)) (by omega), fun _ => rfl⟩, rfl⟩
    · have HE : Hid (k = 16) := by show k = 16; omega
      go_wp2
      go_ret2
      have e := HE.out
      subst e
      exact ⟨⟨fun _ => rfl, fun hno => absurd (HP.out.2 HK.out) hno⟩, rfl⟩

theorem unhex_yes (s : ByteArray) (w : World) (h : hexOK s.data.toList) :
    Calls Tryz.prog 94 #[.string s] w fun e w' => e = .returned (.tuple #[.int .u64 (unhexTo s.data.toList 16), .int .i64 0]) ∧ w' = w :=
  (unhex_any s w (by simpa using h.1)).mono fun e w' ⟨h1, h2⟩ => ⟨h1.1 h, h2⟩
theorem unhex_no (s : ByteArray) (w : World) (h : ¬ hexOK s.data.toList) :
    Calls Tryz.prog 94 #[.string s] w fun e w' => e = .returned (.tuple #[.int .u64 0, .int .i64 8]) ∧ w' = w := by
  by_cases hs : s.size = 16
  · exact (unhex_any s w hs).mono fun e w' ⟨h1, h2⟩ => ⟨h1.2 h, h2⟩
  · exact unhex_len s w (by rw [bne_iff_ne]; omega)
theorem hexCell_old (x k j : Nat) (h : j + k = 15) (i : Nat) (hne : i ≠ j) : hexCell x (k + 1) i = hexCell x k i := by
  unfold hexCell
  by_cases h1 : 16 - k ≤ i
  · rw [if_pos h1, if_pos (by omega)]
  · rw [if_neg h1, if_neg (by omega)]
theorem hexCell_new (x k j : Nat) (h : j + k = 15) : hexCell x (k + 1) j = (hexd (x / 16 ^ k % 16) : Int) := by
  unfold hexCell
  rw [if_pos (by omega), show 15 - j = k from by omega]

/-- the row of sixteen cells behind k rounds -/
structure HexRow (w : World) (H x k : Nat) : Prop where
  cell : ∀ j, j < 16 → w.cell? ⟨H, j, none⟩ = some (.int .u8 (hexCell x k j))
  free : ∀ j, j < 16 → w.frozen? ⟨H, j, none⟩ = false

theorem HexRow.step {w : World} {H x k j : Nat} (h : HexRow w H x k) (hj : j + k = 15) (v : Int) (hv : v = (hexd (x / 16 ^ k % 16) : Int)) : HexRow (w.setCell ⟨H, j, none⟩ (.int .u8 v)) H x (k + 1) := by
  subst hv
  refine ⟨fun i hi => ?_, fun i hi => by rw [World.frozen?_setCell]; exact h.free i hi⟩
  by_cases hij : i = j
  · subst hij
    rw [hexCell_new x k i hj]
    exact World.cell?_setCell_same _ _ _ (h.cell i hi)
  · rw [World.cell?_setCell_other _ _ _ _ (fun e => hij (by injection e with _ e2; exact e2.symm)), hexCell_old x k j hj i hij]
    exact h.cell i hi

theorem HexRow.bytes {w : World} {H x : Nat} (h : HexRow w H x 16) : Bytes w (some ⟨H, 0, none⟩) 16 (hexOf x) := by
  refine ⟨hexOf_len x, fun _ => ⟨H, 0, rfl, fun i hi => ?_⟩⟩
  rw [Nat.zero_add, h.cell i hi, hexOf_bt x i hi]
  unfold hexCell
  rw [if_pos (by omega)]

set_option maxRecDepth 20000 in
set_option maxHeartbeats 400000 in
theorem hex_any (x : Nat) (w : World) (hx : x < 18446744073709551616) :
    Calls Tryz.prog 76 #[.int .u64 x] w fun e w' => e = .returned (.string ⟨(hexOf x).toArray⟩) ∧ Below w.heap.size w w' := by
  go_enter Tryz.func76, Tryz.ntmps76
  go_wp2_with fail
  go_loopw [0, 4] (fun z i wr => ∃ k : Nat, k ≤ 16 ∧ i = .int .i64 (15 - (k : Int)) ∧ z = .int .u64 (x / 16 ^ k : Nat) ∧ HexRow wr w.heap.size x k ∧ Below w.heap.size w wr) (fun _ i _ => (intOf i + 1).toNat)
  case atStart =>
    refine ⟨0, Nat.zero_le _, rfl, by simp, ⟨fun j hj => ?_, fun j hj => ?_⟩, (Below.refl _ _).alloc (Nat.le_refl _) _⟩
    · have : j = 0 ∨ j = 1 ∨ j = 2 ∨ j = 3 ∨ j = 4 ∨ j = 5 ∨ j = 6 ∨ j = 7 ∨ j = 8 ∨ j = 9 ∨ j = 10 ∨ j = 11 ∨ j = 12 ∨ j = 13 ∨ j = 14 ∨ j = 15 := by omega
      rw [World.cell?_alloc_new]
      rcases this with rfl | rfl | rfl | rfl | rfl | rfl | rfl | rfl | rfl | rfl | rfl | rfl | rfl | rfl | rfl | rfl <;> rfl
    · simp
  case round =>
    obtain ⟨k, hk, rfl, rfl, HR, hB⟩ := hrel
    by_cases hlt : k < 16
    · obtain ⟨j, hj⟩ : ∃ j : Nat, j + k = 15 := ⟨15 - k, by omega⟩
      rw [show (15 - (k : Int)) = (j : Int) from by omega]
      have hcj := HR.cell j (by omega)
      have hfj := HR.free j (by omega)
      have i0 : (0 : Int) ≤ (j : Int) := by omega
      have i1 : (j : Int) < 16 := by omega
      have Hj : Hid (j + k = 15) := hj
      have HA : Hid (bits BinOp.and IntKind.u64 ((x / 16 ^ k : Nat) : Int) 15 = ((x / 16 ^ k % 16 : Nat) : Int)) := and15 _ (Nat.lt_of_le_of_lt (Nat.div_le_self _ _) hx)
      have HD : Hid ((x / 16 ^ k) / 16 = x / 16 ^ (k + 1)) := by show _ = _; rw [Nat.div_div_eq_div_mul, Nat.pow_succ]
      have hym : x / 16 ^ k % 16 < 16 := Nat.mod_lt _ (by omega)
      clear hj
      generalize hy : x / 16 ^ k = y at *
      have Hy : Hid (x / 16 ^ k = y) := hy
      clear hy
      go_wp2_with fail
      rw [show bits BinOp.and IntKind.u64 (y : Int) 15 % 256 = ((y % 16 : Nat) : Int) from by rw [HA.out]; omega]
      refine (digit_any (y % 16) _ hym).mono ?_
      rintro e w1 ⟨rfl, rfl⟩
      go_wp2
      go_roundw
      case rel =>
        refine ⟨k + 1, by omega, by have := Hj.out; go_num, ?_, HR.step Hj.out _ (by rw [Hy.out]), hB.setCell (Nat.le_refl _) _⟩
        rw [← HD.out]
        go_num
      case measure => simp [intOf]
    · obtain rfl : k = 16 := by omega
      have r1 := run_string wr (some ⟨w.heap.size, 0, none⟩) 16 16 (hexOf x) HR.bytes
      go_wp2
      go_ret
      exact ⟨rfl, hB⟩

end Go.Proofs.YtdjodigimhgklaaGreatDoor
