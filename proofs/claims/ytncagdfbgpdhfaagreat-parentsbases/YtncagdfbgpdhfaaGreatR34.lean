import Derived.Test.YtncagdfbgpdhfaaGreatR33
import Derived.Test.YtncagdfbgpdhfaaGreatR27
import Derived.Test.YtncagdfbgpdhfaaGreatR24
import Derived.Test.YtncagdfbgpdhfaaGreatR26
import Derived.Test.YtncagdfbgpdhfaaGreatR30
import Derived.Test.YtncagdfbgpdhfaaGreatR32
import Derived.Laws.MakeOwn
import Derived.Deep.LoopGhost
import Derived.Deep.Cut
/- What the marks of a list and of two commits say, plain (for the layer parents). -/
namespace Go.Proofs.YtncagdfbgpdhfaaGreat

theorem and_one {n : Nat} : n &&& 1 = 1 ↔ n.testBit 0 = true := by
  constructor
  · intro h
    have := congrArg (fun z => Nat.testBit z 0) h
    simp only [Nat.testBit_and] at this
    simpa using this
  · intro h
    apply Nat.eq_of_testBit_eq
    intro i
    rw [Nat.testBit_and]
    cases i with
    | zero => rw [h]; simp
    | succ i => rw [Nat.testBit_lt_two_pow (x := 1) (by have := Nat.one_lt_two_pow (n := i + 1) (by omega); omega), Bool.and_false]
theorem and_three {n : Nat} : n &&& 3 = 3 ↔ n.testBit 0 = true ∧ n.testBit 1 = true := by
  constructor
  · intro h
    have h0 := congrArg (fun z => Nat.testBit z 0) h
    have h1 := congrArg (fun z => Nat.testBit z 1) h
    simp only [Nat.testBit_and] at h0 h1
    rw [show Nat.testBit 3 0 = true by decide, Bool.and_true] at h0
    rw [show Nat.testBit 3 1 = true by decide, Bool.and_true] at h1
    exact ⟨h0, h1⟩
  · rintro ⟨h0, h1⟩
    apply Nat.eq_of_testBit_eq
    intro i
    rw [Nat.testBit_and]
    match i with
    | 0 => rw [h0]; rfl
    | 1 => rw [h1]; rfl
    | i + 2 =>
      have : Nat.testBit 3 (i + 2) = false := Nat.testBit_lt_two_pow (by
        have : 2 ^ 2 ≤ 2 ^ (i + 2) := Nat.pow_le_pow_right (by omega) (by omega)
        omega)
      rw [this, Bool.and_false]
/-- an ancestor of a parent is a proper ancestor -/
theorem proper_iff {os : List Ob} {l : List Int} {g : GS} (h : ordG os l GS.none = .ok g) {x y : Int} (hy : y ∈ g.ord) : (∃ ps, parsO os y = some ps ∧ ∃ p ∈ ps, Anc (parsO os) x p) ↔ Anc (parsO os) x y ∧ x ≠ y := by
  have hI := ord_inv h
  constructor
  · rintro ⟨ps, h1, p, h2, h3⟩
    refine ⟨.step h1 h2 h3, fun e => ?_⟩
    subst e
    obtain ⟨i, hi⟩ := List.getElem?_of_mem hy
    obtain ⟨qs, h4, h5⟩ := hI.topo i x hi
    rw [h1] at h4
    cases h4
    obtain ⟨j, hj, hpj⟩ := h5 p h2
    obtain ⟨k, hk, hxk⟩ := h3.at_ hI.topo j hpj
    have := nodup_at hI.nd hi hxk
    omega
  · rintro ⟨h1, h2⟩
    cases h1 with
    | refl => exact absurd rfl h2
    | step a b c => exact ⟨_, a, _, b, c⟩
/-- the mark 4 of a list: a proper ancestor of another one of it -/
theorem list_below {os : List Ob} {l : List Int} {g : GS} (h : ordG os l GS.none = .ok g) (x : Int) : (spr (psO os) 1 g.ord.reverse (fun h => if h ∈ l then 1 else 0) x).testBit 2 = true ↔ ∃ y ∈ l, Anc (parsO os) x y ∧ x ≠ y := by
  have hI := ord_inv h
  have hlow := marks_low hI.topo hI.nd 1 (fun h => if h ∈ l then 1 else 0) (fun z k hz => by
    by_cases hm : z ∈ l
    · exact ord_heads h z hm
    · simp [hm] at hz) 0 (by omega)
  have hbel := marks_below hI.topo hI.nd 1 (fun h => if h ∈ l then 1 else 0) (fun z => by
    by_cases hm : z ∈ l
    · rw [if_pos hm]; decide
    · rw [if_neg hm]; decide)
  have hone : ∀ y ∈ g.ord, (spr (psO os) 1 g.ord.reverse (fun h => if h ∈ l then 1 else 0) y) &&& 1 = 1 := fun y hy => by
    rw [and_one, hlow]
    obtain ⟨z, hz, hA⟩ := ord_anc h y hy
    exact ⟨z, by rw [if_pos hz]; decide, hA⟩
  rw [hbel]
  constructor
  · rintro ⟨y, hy, _, hp⟩
    obtain ⟨hA, hne⟩ := (proper_iff h hy).1 hp
    obtain ⟨z, hz, hB⟩ := ord_anc h y hy
    refine ⟨z, hz, hA.trans hB, fun e => ?_⟩
    subst e
    exact hne (hA.anti hI.topo hI.nd hB hy)
  · rintro ⟨y, hy, hA, hne⟩
    have hyo := ord_heads h y hy
    exact ⟨y, hyo, hone y hyo, (proper_iff h hyo).2 ⟨hA, hne⟩⟩
/-- the marks of two commits: of whom it is an ancestor; 4: a proper ancestor of a common one -/
def pairM (a b : Int) : Int → Nat := fun h => (if h = a then 1 else 0) ||| (if h = b then 2 else 0)
theorem pairM_bit (a b h : Int) : (pairM a b h).testBit 0 = decide (h = a) ∧ (pairM a b h).testBit 1 = decide (h = b) ∧ (pairM a b h).testBit 2 = false := by
  unfold pairM
  by_cases h1 : h = a
  · by_cases h2 : h = b
    · rw [if_pos h1, if_pos h2, decide_eq_true h1, decide_eq_true h2]; decide
    · rw [if_pos h1, if_neg h2, decide_eq_true h1, decide_eq_false h2]; decide
  · by_cases h2 : h = b
    · rw [if_neg h1, if_pos h2, decide_eq_false h1, decide_eq_true h2]; decide
    · rw [if_neg h1, if_neg h2, decide_eq_false h1, decide_eq_false h2]; decide
theorem pair_marks {os : List Ob} {a b : Int} {g : GS} (h : ordG os [a, b] GS.none = .ok g) (x : Int) :
    ((spr (psO os) 3 g.ord.reverse (pairM a b) x).testBit 0 = true ↔ Anc (parsO os) x a) ∧ ((spr (psO os) 3 g.ord.reverse (pairM a b) x).testBit 1 = true ↔ Anc (parsO os) x b) ∧
    ((spr (psO os) 3 g.ord.reverse (pairM a b) x).testBit 2 = true ↔ ∃ y, Anc (parsO os) y a ∧ Anc (parsO os) y b ∧ Anc (parsO os) x y ∧ x ≠ y) := by
  have hI := ord_inv h
  have hm : ∀ z k, (pairM a b z).testBit k = true → z ∈ g.ord := fun z k hz => by
    by_cases h1 : z = a
    · subst h1; exact ord_heads h z (by simp)
    · by_cases h2 : z = b
      · subst h2; exact ord_heads h z (by simp)
      · simp [pairM, h1, h2] at hz
  have l0 := marks_low hI.topo hI.nd 3 (pairM a b) hm 0 (by omega)
  have l1 := marks_low hI.topo hI.nd 3 (pairM a b) hm 1 (by omega)
  have hbel := marks_below hI.topo hI.nd 3 (pairM a b) (fun z => (pairM_bit a b z).2.2)
  have e0 : ∀ x, (spr (psO os) 3 g.ord.reverse (pairM a b) x).testBit 0 = true ↔ Anc (parsO os) x a := fun x => by
    rw [l0]
    constructor
    · rintro ⟨z, hz, hA⟩
      rw [(pairM_bit a b z).1, decide_eq_true_eq] at hz
      subst hz
      exact hA
    · intro hA
      exact ⟨a, by rw [(pairM_bit a b a).1]; simp, hA⟩
  have e1 : ∀ x, (spr (psO os) 3 g.ord.reverse (pairM a b) x).testBit 1 = true ↔ Anc (parsO os) x b := fun x => by
    rw [l1]
    constructor
    · rintro ⟨z, hz, hA⟩
      rw [(pairM_bit a b z).2.1, decide_eq_true_eq] at hz
      subst hz
      exact hA
    · intro hA
      exact ⟨b, by rw [(pairM_bit a b b).2.1]; simp, hA⟩
  refine ⟨e0 x, e1 x, ?_⟩
  rw [hbel]
  constructor
  · rintro ⟨y, hy, h3, hp⟩
    rw [and_three, e0, e1] at h3
    obtain ⟨hA, hne⟩ := (proper_iff h hy).1 hp
    exact ⟨y, h3.1, h3.2, hA, hne⟩
  · rintro ⟨y, h1, h2, hA, hne⟩
    have hy : y ∈ g.ord := h1.mem hI.topo (ord_heads h a (by simp))
    exact ⟨y, hy, and_three.2 ⟨(e0 y).2 h1, (e1 y).2 h2⟩, (proper_iff h hy).2 ⟨hA, hne⟩⟩
end Go.Proofs.YtncagdfbgpdhfaaGreat

/- Marks of commits in memory: a map of ids to small numbers; a history of package parents. -/
namespace Go.Proofs.YtncagdfbgpdhfaaGreat
open Go.RowKit Go.Maps

theorem bits_and (a b : Nat) (ha : a < 16) (hb : b < 16) : bits .and .u64 (a : Int) (b : Int) = ((a &&& b : Nat) : Int) := by
  have h : ∀ a b : Fin 16, bits .and .u64 ((a : Nat) : Int) ((b : Nat) : Int) = (((a : Nat) &&& (b : Nat) : Nat) : Int) := by decide +kernel
  exact h ⟨a, ha⟩ ⟨b, hb⟩
theorem bits_or (a b : Nat) (ha : a < 16) (hb : b < 16) : bits .or .u64 (a : Int) (b : Int) = ((a ||| b : Nat) : Int) := by
  have h : ∀ a b : Fin 16, bits .or .u64 ((a : Nat) : Int) ((b : Nat) : Int) = (((a : Nat) ||| (b : Nat) : Nat) : Int) := by decide +kernel
  exact h ⟨a, ha⟩ ⟨b, hb⟩
theorem or_lt8 {a b : Nat} (ha : a < 8) (hb : b < 8) : a ||| b < 8 := Nat.or_lt_two_pow (n := 3) ha hb
theorem or_lt16 {a b : Nat} (ha : a < 16) (hb : b < 16) : a ||| b < 16 := Nat.or_lt_two_pow (n := 4) ha hb

theorem setN_lt {f : Int → Nat} {n : Nat} (h : ∀ x, f x < n) (x : Int) (v : Nat) (hv : v < n) : ∀ y, setN f x v y < n := fun y => by
  unfold setN
  split
  · exact hv
  · exact h y
theorem orP_lt : ∀ (ps : List Int) (b : Nat) (m : Int → Nat), (∀ x, m x < 8) → b < 8 → ∀ x, orP ps b m x < 8
  | [], _, _, h, _, x => h x
  | p :: r, b, _, h, hb, x => orP_lt r b _ (setN_lt h p _ (or_lt8 (h p) hb)) hb x
theorem bitsB_lt {s b : Nat} (hb : b < 8) : bitsB s b < 8 := by
  unfold bitsB
  split
  · exact or_lt8 hb (by decide)
  · exact hb
theorem spr_lt (P : Int → List Int) (s : Nat) : ∀ (l : List Int) (m : Int → Nat), (∀ x, m x < 8) → ∀ x, spr P s l m x < 8
  | [], _, h, x => h x
  | y :: r, m, h, x => spr_lt P s r _ (orP_lt (P y) _ m h (bitsB_lt (h y))) x
theorem spr_snoc (P : Int → List Int) (s : Nat) : ∀ (l : List Int) (y : Int) (m : Int → Nat), spr P s (l ++ [y]) m = orP (P y) (bitsB s (spr P s l m y)) (spr P s l m)
  | [], _, _ => rfl
  | z :: r, y, m => by
    show spr P s (r ++ [y]) _ = _
    rw [spr_snoc P s r y]; rfl
theorem orP_snoc : ∀ (ps : List Int) (p : Int) (b : Nat) (m : Int → Nat), orP (ps ++ [p]) b m = setN (orP ps b m) p (orP ps b m p ||| b)
  | [], p, b, m => rfl
  | q :: r, p, b, m => by
    show orP (r ++ [p]) b _ = _
    rw [orP_snoc r p b]; rfl

theorem zeroUint (w : World) : (zeroValue 93).run Tryz.prog w = .ok (.int .u64 0) w := by kernel_rfl
/-- block b is a map of ids to marks -/
def MkAt (w : World) (b : Nat) (f : Int → Nat) (k : Nat) : Prop := ∃ M : DataW Value, w.ownsMap Tryz.prog 31 rvO b (size M) M ∧ size M ≤ k ∧ ∀ i, M.atKey (.int .u64 i) (.held (.int .u64 0)) = .held (.int .u64 (f i : Int))
theorem MkAt.look {w : World} {b : Nat} {f : Int → Nat} {k : Nat} (h : MkAt w b f k) (i : Int) (h0 : 0 ≤ i) (h1 : i ≤ 18446744073709551615) (W : World) (hW : W.heap[b]? = w.heap[b]?) : (Instr.lookup 88 (.map (some b)) (.int .u64 i) false).run Tryz.prog W = .ok (.int .u64 (f i : Int)) W := by
  obtain ⟨M, h2, h3, h4⟩ := h
  obtain ⟨u', ps, hrun, hu'⟩ := (ownsMap_kept h2 hW).lookup keyedI Tryz.underlying88 (zeroUint W) (show rvO (.int .u64 0) = some (.held (.int .u64 0), []) from rfl) (keyOfI i h0 h1)
  rw [h4] at hu'
  simp only [rvO, Option.some.injEq, Prod.mk.injEq] at hu'
  obtain ⟨e, _⟩ := hu'
  cases e
  exact hrun
theorem MkAt.kept {w w' : World} {b : Nat} {f : Int → Nat} {k : Nat} (h : MkAt w b f k) (hk : w'.heap[b]? = w.heap[b]?) : MkAt w' b f k := by
  obtain ⟨M, h1, h2⟩ := h
  exact ⟨M, ownsMap_kept h1 hk, h2⟩
theorem MkAt.lt {w : World} {b : Nat} {f : Int → Nat} {k : Nat} (h : MkAt w b f k) : b < w.heap.size := by
  obtain ⟨M, h1, h2⟩ := h
  exact h1.lt
theorem MkAt.put {w : World} {b : Nat} {f : Int → Nat} {k : Nat} (h : MkAt w b f k) (i : Int) (h0 : 0 ≤ i) (h1 : i ≤ 18446744073709551615) (hk : k < maxLen) (v : Nat) : ∃ w2, (Instr.mapUpdate 88 (.map (some b)) (.int .u64 i) (.int .u64 (v : Int))).run Tryz.prog w = .ok () w2 ∧ MkAt w2 b (setN f i v) (k + 1) ∧ w.grownBy w2 (some b) := by
  obtain ⟨M, h2, h3, h4⟩ := h
  obtain ⟨w2, hrun, own2, hg2⟩ := h2.update keyedI Tryz.underlying88 (by omega) (keyOfI i h0 h1) (show rvO (.int .u64 (v : Int)) = some (.held (.int .u64 (v : Int)), []) from rfl)
  have hm := h2.isMap
  have htidy := h2.tidy keyedI
  refine ⟨w2, hrun, ⟨_, ownsMap_tightI own2, ?_, fun l => ?_⟩, hg2⟩
  · rw [size_put htidy]
    split <;> omega
  · by_cases e : l = i
    · subst e
      rw [atKey_put_same hm (keyLitI _)]
      simp [setN]
    · rw [atKey_put_other (key_neI e), h4]
      simp [setN, e]
theorem MkAt.new (w : World) : MkAt (w.alloc (.map #[] 0)) w.heap.size (fun _ => 0) 0 := ⟨.map [], World.ownsMap_made w Tryz.prog 31 rvO, Nat.le_refl _, fun _ => rfl⟩
theorem turn_grown {w w' : World} {b : Nat} (h : w.grownBy w' (some b)) : Turn (fun k => k = b) w w' := ⟨h.os, h.tape, h.output, h.size, fun k hk hn => h.block k hk (fun e => hn (Option.some.inj e))⟩

/-- block g is a history of package parents -/
def BoxH (W : World) (g : Nat) (u0 u1 : Value) : Prop := W.heap[g]? = some (.cells #[u0, u1] 90 (0, 0))
theorem BoxH.lt {W : World} {g : Nat} {u0 u1 : Value} (h : BoxH W g u0 u1) : g < W.heap.size := (Array.getElem?_eq_some_iff.1 h).1
theorem BoxH.new (W : World) (u0 u1 : Value) : BoxH (W.alloc (.cells #[u0, u1] 90)) W.heap.size u0 u1 := World.alloc_heap_new W _
theorem BoxH.cell {W : World} {g : Nat} {u0 u1 : Value} (h : BoxH W g u0 u1) : W.cell? ⟨g, 0, none⟩ = some u0 ∧ W.cell? ⟨g, 1, none⟩ = some u1 := by
  unfold BoxH at h
  refine ⟨?_, ?_⟩ <;> simp [World.cell?, h]
theorem BoxH.frozen {W : World} {g : Nat} {u0 u1 : Value} (h : BoxH W g u0 u1) : W.frozen? ⟨g, 0, none⟩ = false ∧ W.frozen? ⟨g, 1, none⟩ = false := by
  unfold BoxH at h
  refine ⟨?_, ?_⟩ <;> simp [World.frozen?, h]
theorem BoxH.all {W : World} {g : Nat} {v0 v1 : Value} (h : BoxH W g v0 v1) (u0 u1 : Value) : BoxH ((W.setCell ⟨g, 0, none⟩ u0).setCell ⟨g, 1, none⟩ u1) g u0 u1 := by
  have h' := h
  unfold BoxH at h'
  simp [BoxH, World.setCell, Array.getElem?_modify, h', Array.setIfInBounds]
theorem BoxH.other {W : World} {g j i : Nat} {v0 v1 : Value} (h : BoxH W g v0 v1) (hk : g ≠ j) (u : Value) : BoxH (W.setCell ⟨j, i, none⟩ u) g v0 v1 :=
  (Below.heap_setCell _ _ _ _ hk).trans h
end Go.Proofs.YtncagdfbgpdhfaaGreat

/- What slices.Backward of ids tells. -/
namespace Go.Proofs.YtncagdfbgpdhfaaGreat
open Go.RowKit Go.Shelf

attribute [local go_sem] Oper.semAt_some

def bkEncs (x : Nat × Int) : Array Value := #[.int .i64 (x.1 : Int), .int .u64 x.2]
def bkOk (n : Nat) (l : List Int) (pre : List (Nat × Int)) (x : Nat × Int) (_ : World) : Prop := l.reverse[pre.length]? = some x.2 ∧ x.1 + pre.length + 1 = n
def bkKeep (B : Nat) (a : Option Addr) (k : Nat) : Prop := k = B ∨ ∃ b off, a = some ⟨b, off, none⟩ ∧ k = b
set_option maxRecDepth 100000 in
set_option maxHeartbeats 4000000 in
theorem backward_tells (w : World) (B : Nat) (a : Option Addr) (n c : Nat) (l : List Int) (hB : w.cell? ⟨B, 0, none⟩ = some (.slice a n c)) (hl : l.length = n ∧ (0 < n → ∃ b off, a = some ⟨b, off, none⟩ ∧ ∀ (j : Nat) x, l[j]? = some x → w.cell? ⟨b, off + j, none⟩ = some (.int .u64 x))) (hn : n ≤ 1000000000) (m : Nat) (hm : 1 ≤ m) :
    TellsB Fence.wide m Tryz.prog 109 #[.pointer (some ⟨B, 0, none⟩)] bkEncs (bkOk n l) (bkKeep B a) (fun xs => xs.map (·.2) = l.reverse) w := by
  intro lp J Jx W hW hJg hJxg hY h0
  have hcB : W.cell? ⟨B, 0, none⟩ = some (.slice a n c) := (hW.cell (p := ⟨B, 0, none⟩) (World.block_lt_of_cell? w _ hB)).trans hB
  refine callsIn_of_wp Tryz.func109 rfl trivial ?_ rfl
  simp only [Tryz.ntmps109, List.size_toArray, List.length_cons, List.length_nil, Nat.reduceAdd, Nat.reduceSub, Array.replicate_succ, Array.replicate_zero, List.push_toArray, List.append_toArray, List.nil_append, List.cons_append]
  have HL : Hid (l.length = n ∧ (0 < n → ∃ b off, a = some ⟨b, off, none⟩ ∧ ∀ (j : Nat) x, l[j]? = some x → W.cell? ⟨b, off + j, none⟩ = some (.int .u64 x))) := ⟨hl.1, fun h => by
    obtain ⟨b, off, e, hc⟩ := hl.2 h
    exact ⟨b, off, e, fun j x hx => (hW.cell (p := ⟨b, off + j, none⟩) (World.block_lt_of_cell? w _ (hc j x hx))).trans (hc j x hx)⟩⟩
  have HcB : Hid (W.cell? ⟨B, 0, none⟩ = some (.slice a n c)) := hcB
  have i0 : (n : Int) - 1 ≤ 9223372036854775807 := by omega
  have i1 : -9223372036854775808 ≤ (n : Int) - 1 := by omega
  clear hl
  gi_wp2
  clear hcB
  gi_loopw [3] (fun i wr => ∃ (k t : Nat) (pre : List (Nat × Int)), k + t = n ∧ i = .int .i64 ((t : Int) - 1) ∧ Hid (pre.length = k ∧ pre.map (·.2) = l.reverse.take k ∧ J pre wr ∧ Keep (bkKeep B a) W wr)) (fun i _ => (intOf i + 1).toNat)
  case atStart => exact ⟨0, n, [], by omega, rfl, rfl, by simp, h0, Keep.refl _ _⟩
  case round =>
    obtain ⟨k, t', pre, hkt, rfl, H⟩ := hrel
    cases t' with
    | zero =>
      have j1 : ¬ (0 : Int) ≤ ((0 : Nat) : Int) - 1 := by omega
      have HS : Hid (pre.map (·.2) = l.reverse) := by
        have h1 := H.out.2.1
        rw [List.take_of_length_le (by rw [List.length_reverse, HL.out.1]; omega)] at h1
        exact h1
      gi_wp2
      go_end0
      exact ⟨⟨_, rfl⟩, .inl ⟨pre, HS.out, H.out.2.2.1⟩⟩
    | succ t =>
      have e1 : ((t + 1 : Nat) : Int) - 1 = (t : Int) := by omega
      rw [e1]
      have htn : t < n := by omega
      have hkl : k < l.reverse.length := by rw [List.length_reverse, HL.out.1]; omega
      obtain ⟨x, hx⟩ : ∃ x, l.reverse[k]? = some x := ⟨_, List.getElem?_eq_getElem hkl⟩
      have hxl : l[t]? = some x := by
        rw [List.getElem?_reverse (by rw [List.length_reverse] at hkl; exact hkl)] at hx
        rw [← hx, HL.out.1]
        congr 1
        omega
      obtain ⟨b, off, hae, hc⟩ := HL.out.2 (by omega)
      have q0 : wr.cell? ⟨b, off + t, none⟩ = some (.int .u64 x) := (World.cell?_of_block (by exact H.out.2.2.2.2 b (.inr ⟨b, off, hae, rfl⟩))).trans (hc t x hxl)
      have q1 : wr.cell? ⟨B, 0, none⟩ = some (.slice a n c) := (World.cell?_of_block (by exact H.out.2.2.2.2 B (.inl rfl))).trans HcB.out
      subst hae
      have HY : Hid (YieldAt Fence.wide (m - 1) Tryz.prog lp #[.int .i64 (t : Int), .int .u64 x] wr fun e W' => (e = .returned (.bool true) ∧ J (pre ++ [(t, x)]) W' ∧ Keep (bkKeep B (some ⟨b, off, none⟩)) wr W') ∨ (e = .returned (.bool false) ∧ Jx (pre ++ [(t, x)]) W')) := hY pre (t, x) wr H.out.2.2.1 ⟨by rw [H.out.1]; exact hx, by rw [H.out.1]; show t + k + 1 = n; omega⟩
      have HT : Hid ((pre ++ [(t, x)]).map (·.2) = l.reverse.take (k + 1)) := by
        show _ = _
        rw [List.map_append, H.out.2.1, List.take_succ_eq_append_getElem hkl]
        have : l.reverse[k] = x := (List.getElem?_eq_some_iff.1 hx).2
        rw [this]
        rfl
      have j1 : (0 : Int) ≤ (t : Int) := by omega
      have j2 : (t : Int) < (n : Int) := by omega
      have j3 : ¬ n ≤ t := by omega
      clear hc hx hxl hkl
      obtain ⟨fn, tmps, assign, body, hy, hR⟩ := HY.out
      gi_wp2_with fail
      refine hR.mono ?_
      rintro e W3 (⟨rfl, hJ3, hk3⟩ | ⟨rfl, hJ3⟩)
      · have HE : Hid ((pre ++ [(t, x)]).length = k + 1 ∧ (pre ++ [(t, x)]).map (·.2) = l.reverse.take (k + 1) ∧ J (pre ++ [(t, x)]) W3 ∧ Keep (bkKeep B (some ⟨b, off, none⟩)) W W3) := ⟨by rw [List.length_append, H.out.1]; rfl, HT.out, hJ3, H.out.2.2.2.trans hk3⟩
        clear hJ3 hk3 hy hR
        gi_wp2
        go_roundw
        case rel => exact ⟨k + 1, t, _, by omega, by go_num, HE.out⟩
        case measure => simp [intOf]
      · have HE : Hid (Jx (pre ++ [(t, x)]) W3) := hJ3
        clear hJ3 hy hR
        gi_wp2
        refine bodyPost_ret (results_none rfl _ _ _) rfl ?_
        exact ⟨⟨_, rfl⟩, .inr ⟨_, HE.out⟩⟩
set_option maxRecDepth 20000 in
theorem backward_any (w : World) (a : Option Addr) (n c : Nat) :
    Calls Tryz.prog 80 #[.slice a n c] w fun e w' => e = .returned (.func (.func 109) #[] #[.pointer (some ⟨w.heap.size, 0, none⟩)]) ∧ w' = w.alloc (.cells #[.slice a n c] 28) := by
  go_enter Tryz.func80, Tryz.ntmps80
  go_wp2
  go_ret
  exact ⟨rfl, rfl⟩
end Go.Proofs.YtncagdfbgpdhfaaGreat

/- The histories of the laws of layer 11, plain: which objects stand in the store, which ids, which nodes. -/
namespace Go.Proofs.YtncagdfbgpdhfaaGreat
open Go.RowKit

theorem gob_ok {o : Ob} {v : Value} {W : World} (h : ObAt o v W) (h0 : obErr o = 0) : (obB o).length ≤ 16384 ∧ decG (obB o) = some o := by
  have ok : ObOk o := by
    cases o with
    | blob b => exact trivial
    | tree l =>
      obtain ⟨ad, cp, _, h2, h3, h4⟩ := h
      obtain ⟨f1, f2⟩ := fits_of h3 h0
      refine ⟨fun x hx => ?_, by omega⟩
      obtain ⟨j, hj⟩ := List.mem_iff_getElem?.1 hx
      exact ⟨f2.name j x hj, f2.id j x hj⟩
    | com c =>
      obtain ⟨ad, cp, _, h2⟩ := h
      obtain ⟨f0, f1, f2, f3⟩ := com_fits h0
      exact ⟨h2.tree, h2.pars, by omega, f2, h2.date, f3⟩
  refine ⟨obB_len h h0, ?_⟩
  have := decR_obB o ok []
  rw [List.append_nil] at this
  unfold decG
  rw [this]
  cases o <;> simp [h0]
/-- a commit as the laws are handed it -/
structure BornD where
  back : List Int
  date : Int
  blob : Bool
  lost : Bool
  bare : Bool
/-- what becomes of a store into which an object is put -/
noncomputable def putG (os : List Ob) (o : Ob) : Option (List Ob) := match findO os (oid o) with
  | none => some (os ++ [o])
  | some p => if obB p = obB o then some os else none
def backI (n m : Nat) (x : Int) : Nat := n - 1 - (max x 0).toNat % m
def backId (ids : List Int) (x : Int) : Int := (ids[backI ids.length ids.length x]?).getD 0
def backs (ids : List Int) (back : List Int) : List Int := if ids.length = 0 then [] else (back.take 7).map (backId ids)
def parsG (ids : List Int) (b : BornD) : List Int := backs ids b.back ++ (if b.lost then [54321] else [])
def comG (none : Int) (ids : List Int) (b : BornD) : ComD := (if b.bare then 12345 else none, parsG ids b, ⟨#[]⟩, b.date, ⟨#[]⟩)
def byteG (d : Int) : UInt8 := UInt8.ofNat (d % 256).toNat
def obG (none : Int) (ids : List Int) (b : BornD) : Ob := if b.blob then .blob [byteG b.date] else .com (comG none ids b)
def hasN (nodes : List (Int × List Int × Bool)) (i : Int) : Bool := nodes.any fun n => n.1 == i
/-- the empty tree's id -/
noncomputable def emptyI : Int := oid (.tree [])
end Go.Proofs.YtncagdfbgpdhfaaGreat

/- A history of the laws of layer 11 in memory, while it is made. -/
namespace Go.Proofs.YtncagdfbgpdhfaaGreat
open Go.RowKit Go.Maps

/-- a node in memory -/
structure Nd where
  id : Int
  pa : Option Addr
  pn : Nat
  pc : Nat
  other : Bool
  ps : List Int
def Nd.told (x : Nd) : Int × List Int × Bool := (x.id, x.ps, x.other)
def ndCells : List Nd → List Value
  | [] => []
  | x :: r => .int .u64 x.id :: .slice x.pa x.pn x.pc :: .bool x.other :: ndCells r
theorem ndCells_one : ∀ (l : List Nd), ∀ u ∈ ndCells l, u.oneCell' = true
  | [], u, h => by cases h
  | m :: r, u, h => by
    simp only [ndCells, List.mem_cons] at h
    rcases h with rfl | rfl | rfl | h
    · rfl
    · rfl
    · rfl
    · exact ndCells_one r u h
theorem ndCells_append : ∀ (l m : List Nd), ndCells (l ++ m) = ndCells l ++ ndCells m
  | [], m => rfl
  | x :: r, m => by simp [ndCells, ndCells_append r m]
theorem ndCells_get : ∀ (l : List Nd) (j : Nat) (x : Nd), l[j]? = some x → (ndCells l)[j * 3]? = some (.int .u64 x.id) ∧ (ndCells l)[j * 3 + 1]? = some (.slice x.pa x.pn x.pc) ∧ (ndCells l)[j * 3 + 2]? = some (.bool x.other)
  | [], j, m, h => by simp at h
  | y :: r, 0, m, h => by
    simp at h; subst h
    exact ⟨rfl, rfl, rfl⟩
  | y :: r, j + 1, m, h => by
    have ih := ndCells_get r j m (by simpa using h)
    rw [show (j + 1) * 3 = j * 3 + 3 by omega]
    exact ih
theorem cells_node_new (w : World) (x : Nd) : ∀ j u, (ndCells [x])[j]? = some u → (w.alloc (.cells #[.int .u64 x.id, .slice x.pa x.pn x.pc, .bool x.other] 85)).cell? ((⟨w.heap.size, 0, none⟩ : Addr).add j) = some u := by
  intro j u hj
  have hb := World.alloc_heap_new w (.cells #[.int .u64 x.id, .slice x.pa x.pn x.pc, .bool x.other] 85)
  generalize w.alloc (.cells #[.int .u64 x.id, .slice x.pa x.pn x.pc, .bool x.other] 85) = W at hb
  rw [Addr.add_lit]
  match j, hj with
  | 0, hj => simp [ndCells] at hj; subst hj; simp [World.cell?, hb]
  | 1, hj => simp [ndCells] at hj; subst hj; simp [World.cell?, hb]
  | 2, hj => simp [ndCells] at hj; subst hj; simp [World.cell?, hb]
  | j + 3, hj => simp [ndCells] at hj
theorem infoNode : (Tryz.prog.info? 85).map (fun i => (i.zero, i.size, i.bytes)) = some (some (.agg #[.int .u64 0, .slice none 0 0, .bool false]), 3, 40) := by kernel_rfl
end Go.Proofs.YtncagdfbgpdhfaaGreat

/- The document's Find among nodes. -/
namespace Go.Proofs.YtncagdfbgpdhfaaGreat
open Go.RowKit Go.Maps

attribute [local go_sem] Oper.semAt_some

/-- a slice of nodes -/
def Nds (w : World) (a : Option Addr) (n : Nat) (ns : List Nd) : Prop := ns.length = n ∧ (0 < n → ∃ b off, a = some ⟨b, off, none⟩ ∧ ∀ (j : Nat) (x : Nd), ns[j]? = some x → w.cell? ⟨b, off + j * 3, none⟩ = some (.int .u64 x.id) ∧ w.cell? ⟨b, off + j * 3 + 1, none⟩ = some (.slice x.pa x.pn x.pc) ∧ w.cell? ⟨b, off + j * 3 + 2, none⟩ = some (.bool x.other))
theorem row_nds {w : World} {B n c : Nat} {ad : Option Addr} {ns : List Nd} (h : w.ownsRow B 85 3 (.slice ad n c) n (ndCells ns)) (hl : ns.length = n) : Nds w ad n ns := by
  refine ⟨hl, fun h0 => ?_⟩
  rcases h.2 with ⟨e, h'⟩ | ⟨g, cap, cur, e, _⟩
  · omega
  · cases e
    refine ⟨g, 0, rfl, fun j m hm => ?_⟩
    have hj := (List.getElem?_eq_some_iff.1 hm).1
    obtain ⟨h1, h2, h3⟩ := ndCells_get ns j m hm
    simp only [Nat.zero_add]
    refine ⟨?_, ?_, ?_⟩ <;> rw [h.cellAt _ (by omega)] <;> assumption
/-- where an id stands among nodes -/
def fiN : List Nd → Int → Int → Int
  | [], _, _ => -1
  | x :: r, i, k => if x.id = i then k else fiN r i (k + 1)
theorem fiN_drop (l : List Nd) (k : Nat) (x : Nd) (i : Int) (h : l[k]? = some x) : fiN (l.drop k) i k = if x.id = i then (k : Int) else fiN (l.drop (k + 1)) i ((k + 1 : Nat) : Int) := by
  have hk := (List.getElem?_eq_some_iff.1 h).1
  rw [List.drop_eq_getElem_cons hk]
  have : l[k] = x := (List.getElem?_eq_some_iff.1 h).2
  rw [this]
  rfl
theorem fiN_neg : ∀ (l : List Nd) (i : Int) (k : Nat), fiN l i k < 0 ↔ hasN (l.map Nd.told) i = false
  | [], i, k => by simp [fiN, hasN]
  | x :: r, i, k => by
    have ih := fiN_neg r i (k + 1)
    have e1 : fiN (x :: r) i k = if x.id = i then (k : Int) else fiN r i ((k : Int) + 1) := rfl
    have e2 : hasN ((x :: r).map Nd.told) i = ((x.id == i) || hasN (r.map Nd.told) i) := rfl
    have e3 : (((k + 1 : Nat)) : Int) = (k : Int) + 1 := by simp
    rw [e3] at ih
    rw [e1, e2]
    by_cases h : x.id = i
    · rw [if_pos h]
      simp [h]
    · rw [if_neg h, ih]
      have : (x.id == i) = false := beq_eq_false_iff_ne.2 h
      rw [this, Bool.false_or]
set_option maxRecDepth 20000 in
theorem find11_any (w : World) (a : Option Addr) (n c : Nat) (ns : List Nd) (h : Nds w a n ns) (hn : n ≤ 1000000000000) (i : Int) :
    Calls Tryz.prog 37 #[.slice a n c, .int .u64 i] w fun e w' => e = .returned (.int .i64 (fiN ns i 0)) ∧ w' = w := by
  have hll := h.1
  obtain ⟨E, hE⟩ : ∃ E, E = fiN ns i 0 := ⟨_, rfl⟩
  rw [← hE]
  go_enter Tryz.func37, Tryz.ntmps37
  go_wp2
  go_loopw [5] (fun v wr => ∃ k : Nat, k ≤ n ∧ v = .int .i64 (k : Int) ∧ Hid (E = fiN (ns.drop k) i k ∧ wr = w)) (fun v _ => n - (intOf v).toNat)
  case atStart => exact ⟨0, Nat.zero_le _, rfl, hE, rfl⟩
  case round =>
    clear hE
    obtain ⟨k, hk, rfl, H⟩ := hrel
    have hwr := H.out.2
    subst hwr
    by_cases hlt : k < n
    · obtain ⟨x, hx⟩ : ∃ x, ns[k]? = some x := ⟨_, List.getElem?_eq_getElem (by omega)⟩
      obtain ⟨b1, o1, rfl, hc1⟩ := h.2 (by omega)
      obtain ⟨q0, q1, q2⟩ := hc1 k x hx
      have HD := H.out.1.trans (fiN_drop ns k x i hx)
      have i2 : (k : Int) < (n : Int) := by omega
      have i3 : ¬ n ≤ k := by omega
      clear hc1 hx H q1 q2
      by_cases h0 : x.id = i
      · rw [if_pos h0] at HD
        rw [h0] at q0
        clear h0
        subst HD
        go_wp2
        go_ret
        exact ⟨rfl, rfl⟩
      · rw [if_neg h0] at HD
        have HE : Hid (E = fiN (ns.drop (k + 1)) i ((k + 1 : Nat) : Int)) := HD
        clear HD
        generalize x.id = xi at *
        have h0' : (xi == i) = false := beq_eq_false_iff_ne.2 h0
        go_wp2
        go_roundw
        case rel => exact ⟨k + 1, by omega, by simp, HE.out, by trivial⟩
        case measure => simp [intOf]; omega
    · obtain rfl : k = n := by omega
      have i2 : ¬ (k : Int) < (k : Int) := by omega
      have e0 : E = -1 := by rw [H.out.1, List.drop_of_length_le (by omega)]; rfl
      clear H
      subst e0
      go_wp2
      go_ret
      exact ⟨rfl, rfl⟩
end Go.Proofs.YtncagdfbgpdhfaaGreat

/- The document's Has and From: a commit gone through behind others. -/
namespace Go.Proofs.YtncagdfbgpdhfaaGreat
open Go.RowKit Go.Maps

attribute [local go_sem] Oper.semAt_some

end Go.Proofs.YtncagdfbgpdhfaaGreat

/- The walk of the document's From. -/
namespace Go.Proofs.YtncagdfbgpdhfaaGreat
open Go.RowKit Go.Maps

attribute [local go_sem] Oper.semAt_some

end Go.Proofs.YtncagdfbgpdhfaaGreat
