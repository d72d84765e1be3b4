/- Two disks beside a script in memory: what each step keeps. -/
import Derived.Test.YtibnppclnapjkaaDiskRel
namespace Go.Proofs.Ytibnppclnapjkaa
open Go.RowKit Go.Maps

theorem flat_get : ∀ (ops : List GOp) (k j : Nat) (o : GOp) (v : Value), ops[k]? = some o → o.cells.toList[j]? = some v → (flat ops)[k * 5 + j]? = some v := by
  intro ops
  induction ops with
  | nil => intro k j o v h; simp at h
  | cons a r ih =>
    intro k j o v h hj
    have hj5 : j < 5 := by have := (List.getElem?_eq_some_iff.1 hj).1; simpa [GOp.cells] using this
    have e : flat (a :: r) = a.cells.toList ++ flat r := by simp [flat]
    have l5 : a.cells.toList.length = 5 := by simp [GOp.cells]
    rw [e]
    cases k with
    | zero =>
      simp only [List.getElem?_cons_zero, Option.some.injEq] at h
      subst h
      rw [Nat.zero_mul, Nat.zero_add, List.getElem?_append_left (by omega)]
      exact hj
    | succ k =>
      rw [List.getElem?_append_right (by omega), l5, show (k + 1) * 5 + j - 5 = k * 5 + j by omega]
      exact ih k j o v (by simpa using h) hj

/-- the script's rows can be seen -/
def Seen (wr : World) (sa : Option Addr) (ops : List GOp) : Prop := ∀ k o, ops[k]? = some o → ∃ g, sa = some ⟨g, 0, none⟩ ∧ g < wr.heap.size ∧ ∀ j v, o.cells.toList[j]? = some v → wr.cell? ⟨g, k * 5 + j, none⟩ = some v

theorem Seen.turn {wr w' : World} {sa : Option Addr} {ops : List GOp} {X : Nat → Prop} (h : Seen wr sa ops) (hT : Turn X wr w') (hx : ∀ x, sa = some x → ¬ X x.block) : Seen w' sa ops := by
  intro k o ho
  obtain ⟨g, rfl, hg, hc⟩ := h k o ho
  exact ⟨g, rfl, Nat.lt_of_lt_of_le hg hT.size, fun j v hv => hT.cell (hc j v hv) (hx ⟨g, 0, none⟩ rfl)⟩

structure Two (w wr : World) (sa : Option Addr) (ops : List GOp) (p q : Nat) (D E : DG) (Fp Gp : Nat → Prop) : Prop where
  seen : Seen wr sa ops
  below : Below w.heap.size w wr
  hd : IsDisk wr p D Fp
  he : IsDisk wr q E Gp
  fp : ∀ k, Fp k → w.heap.size ≤ k ∧ ¬ Gp k
  gp : ∀ k, Gp k → w.heap.size ≤ k
  as1 : ∀ x, sa = some x → ¬ Fp x.block ∧ ¬ Gp x.block ∧ x.block < wr.heap.size

section
variable {w wr w' : World} {sa : Option Addr} {ops : List GOp} {p q : Nat} {D E D' E' : DG} {Fp Gp : Nat → Prop}

theorem Two.turn (h : Two w wr sa ops p q D E Fp Gp) {X : Nat → Prop} (hT : Turn X wr w') (hX : ∀ k, X k → w.heap.size ≤ k ∧ ¬ Fp k ∧ ¬ Gp k ∧ ∀ x, sa = some x → k ≠ x.block) : Two w w' sa ops p q D E Fp Gp where
  seen := h.seen.turn hT (fun x hx hk => (hX _ hk).2.2.2 x hx rfl)
  below := h.below.trans (hT.below h.below.size (fun k hk => (hX k hk).1))
  hd := h.hd.turn hT (fun k hk hx => (hX k hx).2.1 hk)
  he := h.he.turn hT (fun k hk hx => (hX k hx).2.2.1 hk)
  fp := h.fp
  gp := h.gp
  as1 := fun x hx => ⟨(h.as1 x hx).1, (h.as1 x hx).2.1, Nat.lt_of_lt_of_le (h.as1 x hx).2.2 hT.size⟩
theorem Two.grown (h : Two w wr sa ops p q D E Fp Gp) (hB : Below wr.heap.size wr w') : Two w w' sa ops p q D E Fp Gp := h.turn (Turn.of_below (fun _ => False) hB) (fun _ h => h.elim)
theorem Two.stepD (h : Two w wr sa ops p q D E Fp Gp) (hd : IsDisk w' p D' (grow Fp wr w')) (hT : Turn Fp wr w') : Two w w' sa ops p q D' E (grow Fp wr w') Gp where
  seen := h.seen.turn hT (fun x hx => (h.as1 x hx).1)
  below := h.below.trans (hT.below h.below.size (fun k hk => (h.fp k hk).1))
  hd := hd
  he := h.he.turn hT (fun k hk hf => (h.fp k hf).2 hk)
  fp := by
    rintro k (hk | hk)
    · exact h.fp k hk
    · have := h.below.size
      exact ⟨by omega, fun hg => by have := h.he.lt k hg; omega⟩
  gp := h.gp
  as1 := fun x hx => ⟨fun hk => hk.elim (h.as1 x hx).1 (fun hk => by have := (h.as1 x hx).2.2; omega), (h.as1 x hx).2.1, Nat.lt_of_lt_of_le (h.as1 x hx).2.2 hT.size⟩
theorem Two.stepE (h : Two w wr sa ops p q D E Fp Gp) (he : IsDisk w' q E' (grow Gp wr w')) (hT : Turn Gp wr w') : Two w w' sa ops p q D E' Fp (grow Gp wr w') where
  seen := h.seen.turn hT (fun x hx => (h.as1 x hx).2.1)
  below := h.below.trans (hT.below h.below.size (fun k hk => h.gp k hk))
  hd := h.hd.turn hT (fun k hk hg => (h.fp k hk).2 hg)
  he := he
  fp := fun k hk => ⟨(h.fp k hk).1, fun hg => hg.elim (h.fp k hk).2 (fun hg => by have := h.hd.lt k hk; omega)⟩
  gp := by
    rintro k (hk | hk)
    · exact h.gp k hk
    · have := h.below.size
      omega
  as1 := fun x hx => ⟨(h.as1 x hx).1, fun hk => hk.elim (h.as1 x hx).2.1 (fun hk => by have := (h.as1 x hx).2.2; omega), Nat.lt_of_lt_of_le (h.as1 x hx).2.2 hT.size⟩
/-- a copy of the second, made now, in the second's place, the second in the first's -/
theorem Two.copied (h : Two w wr sa ops p q D E Fp Gp) {r : Nat} {L : DG} (hc : IsDisk w' r L (grow (fun _ => False) wr w')) (hB : Below wr.heap.size wr w') : Two w w' sa ops q r E L Gp (grow (fun _ => False) wr w') where
  seen := (h.grown hB).seen
  below := (h.grown hB).below
  hd := (h.grown hB).he
  he := hc
  fp := fun k hk => ⟨h.gp k hk, fun hg => hg.elim False.elim (fun hg => by have := h.he.lt k hk; omega)⟩
  gp := by
    rintro k (hk | hk)
    · exact hk.elim
    · have := h.below.size
      omega
  as1 := fun x hx => ⟨(h.as1 x hx).2.1, fun hk => hk.elim False.elim (fun hk => by have := (h.as1 x hx).2.2; omega), Nat.lt_of_lt_of_le (h.as1 x hx).2.2 hB.size⟩
end

/-- the operations of a script, as they came in -/
def Fits (w : World) (ops : List GOp) : Prop := ∀ o ∈ ops, o.name.size ≤ maxLen ∧ o.to.size ≤ maxLen ∧ o.len ≤ o.cap ∧ (o.ad = none → o.len = 0 ∧ o.cap = 0) ∧ o.len ≤ 9223372036854775807 ∧ ∃ l, Bytes w o.ad o.len l

/-- a step on a disk of two, in a world that came behind -/
theorem step_in (w wr : World) (p : Nat) (S : DG) (Fp : Nat → Prop) (b : Nat) (o : GOp) (l : List UInt8) (hfit : o.name.size ≤ maxLen ∧ o.to.size ≤ maxLen ∧ o.len ≤ o.cap ∧ (o.ad = none → o.len = 0 ∧ o.cap = 0) ∧ o.len ≤ 9223372036854775807 ∧ ∃ l, Bytes w o.ad o.len l)
    (hl : Bytes w o.ad o.len l) (hB : Below w.heap.size w wr) (hd : IsDisk wr p S Fp) (hF : ∀ k, Fp k → w.heap.size ≤ k) (hfine : Fine S b) (hb : b ≤ 1000000000) :
    Calls Try.prog 21 #[.pointer (some ⟨p, 0, none⟩), .agg o.cells] wr fun e w' => e = .returned (.int .i64 (S.step o l).2) ∧ IsDisk w' p (S.step o l).1 (grow Fp wr w') ∧ Turn Fp wr w' := by
  have hlt : 0 < o.len → ∀ x, o.ad = some x → x.block < w.heap.size := by
    intro h0 x hx
    obtain ⟨b, off, e, hc⟩ := hl.2 h0
    rw [e] at hx
    cases hx
    exact World.block_lt_of_cell? w _ (hc 0 h0)
  refine step_any p S Fp wr o l hd hfit.1 hfit.2.1 ((Turn.of_below (fun _ => False) ?_).bytes hl (fun _ _ _ => id)) hfit.2.2.1 hfit.2.2.2.1 (fun h0 x hx => ⟨fun hf => ?_, ?_⟩) hfit.2.2.2.2.1 hfine.bs hfine.n (by have := hfine.wr; omega)
  · exact hB
  · have h1 := hF _ hf
    have h2 := hlt h0 x hx
    omega
  · exact Nat.lt_of_lt_of_le (hlt h0 x hx) hB.size

end Go.Proofs.Ytibnppclnapjkaa
