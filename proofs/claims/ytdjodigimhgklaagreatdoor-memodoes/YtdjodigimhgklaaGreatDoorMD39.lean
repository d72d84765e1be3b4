import Derived.Test.YtdjodigimhgklaaGreatDoorMD38
import Derived.Maps.AppendAt
import Derived.Test.YtdjodigimhgklaaGreatDoorMD21
import Derived.Deep.CutRange
import Derived.Deep.CutBlock
import Derived.Deep.LoopGhost
import Derived.Test.YtdjodigimhgklaaGreatDoorMD31
/- The document's memo in memory. -/
namespace Go.Proofs.YtdjodigimhgklaaGreatDoor
open Go.RowKit Go.Shelf Go.Maps

/-- a slice of runs, apart from what turns -/
structure PtV (w : World) (Q : Nat → Prop) (a : Option Addr) (n : Nat) (l : List (Nat × List Pr)) : Prop where
  len : l.length = n
  cells : 0 < n → ∃ b o, a = some ⟨b, o, none⟩ ∧ b < w.heap.size ∧ ¬ Q b ∧ ∀ j x, l[j]? = some x → ∃ pa pc, w.cell? ⟨b, o + j * 2, none⟩ = some (.int .i64 (x.1 : Int)) ∧ w.cell? ⟨b, o + j * 2 + 1, none⟩ = some (.slice pa x.2.length pc) ∧ Pv w Q pa x.2.length pc x.2
theorem PtV.mk' {w w' : World} {Q Q' : Nat → Prop} {a : Option Addr} {n : Nat} {l : List (Nat × List Pr)} (h : PtV w Q a n l) (hs : w.heap.size ≤ w'.heap.size) (hb : ∀ k, k < w.heap.size → ¬ Q k → w'.heap[k]? = w.heap[k]?) (hq : ∀ k, k < w.heap.size → ¬ Q k → ¬ Q' k) (hp : ∀ {a n c l}, Pv w Q a n c l → Pv w' Q' a n c l) : PtV w' Q' a n l where
  len := h.len
  cells := fun h0 => by
    obtain ⟨b, o, e, h1, h2, h3⟩ := h.cells h0
    refine ⟨b, o, e, Nat.lt_of_lt_of_le h1 hs, hq b h1 h2, fun j x hx => ?_⟩
    obtain ⟨pa, pc, q1, q2, q3⟩ := h3 j x hx
    have hq := hb b h1 h2
    exact ⟨pa, pc, by rw [World.cell?_of_block (a := ⟨b, _, none⟩) hq]; exact q1, by rw [World.cell?_of_block (a := ⟨b, _, none⟩) hq]; exact q2, hp q3⟩
theorem PtV.turn {w w' : World} {Q : Nat → Prop} {a : Option Addr} {n : Nat} {l : List (Nat × List Pr)} (h : PtV w Q a n l) (hT : Turn Q w w') : PtV w' (grow Q w w') a n l :=
  h.mk' hT.size (fun k h1 h2 => hT.block k h1 h2) (fun k h1 h2 hg => hg.elim h2 fun hg => by omega) fun hp => hp.turn hT
theorem PtV.below {w w' : World} {Q : Nat → Prop} {a : Option Addr} {n : Nat} {l : List (Nat × List Pr)} (h : PtV w Q a n l) (hB : Below w.heap.size w w') : PtV w' Q a n l :=
  h.mk' hB.size (fun k h1 _ => hB.block k h1) (fun _ _ h2 => h2) fun hp => hp.below hB
/-- bytes, apart from what turns -/
def BsV (w : World) (Q : Nat → Prop) (a : Option Addr) (n : Nat) (l : List UInt8) : Prop := Bytes w a n l ∧ (0 < n → ∀ x, a = some x → x.block < w.heap.size ∧ ¬ Q x.block)
theorem BsV.turn {w w' : World} {Q : Nat → Prop} {a : Option Addr} {n : Nat} {l : List UInt8} (h : BsV w Q a n l) (hT : Turn Q w w') : BsV w' (grow Q w w') a n l :=
  ⟨hT.bytes h.1 fun h0 x e => (h.2 h0 x e).2, fun h0 x e => ⟨Nat.lt_of_lt_of_le (h.2 h0 x e).1 hT.size, fun hg => hg.elim (h.2 h0 x e).2 fun hg => by have := (h.2 h0 x e).1; omega⟩⟩
theorem BsV.below {w w' : World} {Q : Nat → Prop} {a : Option Addr} {n : Nat} {l : List UInt8} (h : BsV w Q a n l) (hB : Below w.heap.size w w') : BsV w' Q a n l :=
  ⟨vbytes_below h.1 hB, fun h0 x e => ⟨Nat.lt_of_lt_of_le (h.2 h0 x e).1 hB.size, (h.2 h0 x e).2⟩⟩
/-- the document's memo: its three cells -/
structure WmV (w : World) (Q : Nat → Prop) (pa : Option Addr) (pc : Nat) (ja : Option Addr) (jc : Nat) (m : Wm) : Prop where
  parts : PtV w Q pa m.parts.length m.parts
  pcap : m.parts.length ≤ pc
  pnil : pa = none → m.parts.length = 0 ∧ pc = 0
  jn : BsV w Q ja m.jn.length m.jn
  jcap : m.jn.length ≤ jc
  jnil : ja = none → m.jn.length = 0 ∧ jc = 0
abbrev wmVal (pa : Option Addr) (pc : Nat) (ja : Option Addr) (jc : Nat) (m : Wm) : Value := .agg #[.slice pa m.parts.length pc, .int .i64 (m.last : Int), .slice ja m.jn.length jc]
theorem WmV.turn {w w' : World} {Q : Nat → Prop} {pa : Option Addr} {pc : Nat} {ja : Option Addr} {jc : Nat} {m : Wm} (h : WmV w Q pa pc ja jc m) (hT : Turn Q w w') : WmV w' (grow Q w w') pa pc ja jc m :=
  { h with parts := h.parts.turn hT, jn := h.jn.turn hT }
theorem WmV.below {w w' : World} {Q : Nat → Prop} {pa : Option Addr} {pc : Nat} {ja : Option Addr} {jc : Nat} {m : Wm} (h : WmV w Q pa pc ja jc m) (hB : Below w.heap.size w w') : WmV w' Q pa pc ja jc m :=
  { h with parts := h.parts.below hB, jn := h.jn.below hB }
theorem WmV.sub {w : World} {Q Q' : Nat → Prop} {pa : Option Addr} {pc : Nat} {ja : Option Addr} {jc : Nat} {m : Wm} (h : WmV w Q pa pc ja jc m) (hq : ∀ k, Q' k → Q k) : WmV w Q' pa pc ja jc m :=
  { h with
    parts := h.parts.mk' (Nat.le_refl _) (fun _ _ _ => rfl) (fun k _ h2 hq' => h2 (hq k hq')) fun hp => hp.sub hq
    jn := ⟨h.jn.1, fun h0 x e => ⟨(h.jn.2 h0 x e).1, fun hq' => (h.jn.2 h0 x e).2 (hq _ hq')⟩⟩ }
end Go.Proofs.YtdjodigimhgklaaGreatDoor

/- A row of runs of the document, put together. -/
namespace Go.Proofs.YtdjodigimhgklaaGreatDoor
open Go.RowKit Go.Shelf Go.Maps

theorem infoPt : (Tryz.prog.info? 99).map (fun i => (i.zero, i.size, i.bytes)) = some (some (.agg #[.int .i64 0, .slice none 0 0]), 2, 32) := by kernel_rfl
/-- the cells of runs -/
def PtL (w : World) (Q : Nat → Prop) (l : List (Nat × List Pr)) (xs : List Value) : Prop :=
  xs.length = l.length * 2 ∧ (∀ j x, l[j]? = some x → ∃ pa pc, xs[j * 2]? = some (.int .i64 (x.1 : Int)) ∧ xs[j * 2 + 1]? = some (.slice pa x.2.length pc) ∧ Pv w Q pa x.2.length pc x.2) ∧ ∀ u ∈ xs, u.oneCell' = true
theorem PtV.list {w : World} {Q : Nat → Prop} {a : Option Addr} {n : Nat} {l : List (Nat × List Pr)} (h : PtV w Q a n l) : ∃ xs, PtL w Q l xs ∧ (0 < n → ∃ b o, a = some ⟨b, o, none⟩ ∧ ∀ j u, xs[j]? = some u → w.cell? ⟨b, o + j, none⟩ = some u) := by
  have hlen := h.len
  by_cases h0 : 0 < n
  · obtain ⟨b, o, e, _, _, hc⟩ := h.cells h0
    have hx : ∀ j, j < n * 2 → ∃ x pa pc, l[j / 2]? = some x ∧ w.cell? ⟨b, o + j, none⟩ = some (if j % 2 = 0 then .int .i64 (x.1 : Int) else .slice pa x.2.length pc) ∧ Pv w Q pa x.2.length pc x.2 := fun j hj => by
      obtain ⟨x, hx⟩ : ∃ x, l[j / 2]? = some x := ⟨_, List.getElem?_eq_getElem (by omega)⟩
      obtain ⟨pa, pc, q1, q2, q3⟩ := hc _ x hx
      refine ⟨x, pa, pc, hx, ?_, q3⟩
      split
      · rw [show o + j = o + j / 2 * 2 by omega]; exact q1
      · rw [show o + j = o + j / 2 * 2 + 1 by omega]; exact q2
    have hget : ∀ j, ((List.range (n * 2)).map fun j => (w.cell? ⟨b, o + j, none⟩).getD undef)[j]? = if j < n * 2 then some ((w.cell? ⟨b, o + j, none⟩).getD undef) else none := fun j => by
      rw [List.getElem?_map]
      split
      · rename_i hj
        rw [List.getElem?_range hj]; rfl
      · rename_i hj
        rw [List.getElem?_eq_none (by simp; omega)]; rfl
    refine ⟨(List.range (n * 2)).map fun j => (w.cell? ⟨b, o + j, none⟩).getD undef, ⟨by simp [hlen], fun j x hjx => ?_, fun u hu => ?_⟩, fun _ => ⟨b, o, e, fun j u hu => ?_⟩⟩
    · have hj := (List.getElem?_eq_some_iff.1 hjx).1
      obtain ⟨pa, pc, q1, q2, q3⟩ := hc j x hjx
      exact ⟨pa, pc, by rw [hget, if_pos (by omega), q1]; rfl, by rw [hget, if_pos (by omega), show o + (j * 2 + 1) = o + j * 2 + 1 by omega, q2]; rfl, q3⟩
    · obtain ⟨j, hj, rfl⟩ := List.mem_map.1 hu
      obtain ⟨x, pa, pc, _, q, _⟩ := hx j (List.mem_range.1 hj)
      rw [q, Option.getD_some]
      split <;> rfl
    · rw [hget] at hu
      split at hu
      · rename_i hj
        obtain ⟨x, pa, pc, _, q, _⟩ := hx j hj
        rw [q] at hu
        rw [q, ← hu]; rfl
      · cases hu
  · have hl : l = [] := List.eq_nil_of_length_eq_zero (by omega)
    subst hl
    exact ⟨[], ⟨rfl, fun j x hx => by simp at hx, fun u hu => by cases hu⟩, fun h => absurd h h0⟩
theorem PtL.cons {w : World} {Q : Nat → Prop} {l : List (Nat × List Pr)} {xs : List Value} (h : PtL w Q l xs) (nn : Nat) {F : List Pr} {fa : Option Addr} {fc : Nat} (hF : Pv w Q fa F.length fc F) : PtL w Q ((nn, F) :: l) (.int .i64 (nn : Int) :: .slice fa F.length fc :: xs) := by
  refine ⟨by simp [h.1]; omega, fun j x hx => ?_, fun u hu => ?_⟩
  · cases j with
    | zero =>
      simp only [List.getElem?_cons_zero, Option.some.injEq] at hx
      subst hx
      exact ⟨fa, fc, rfl, rfl, hF⟩
    | succ j =>
      obtain ⟨pa, pc, q1, q2, q3⟩ := h.2.1 j x (by simpa using hx)
      refine ⟨pa, pc, ?_, ?_, q3⟩
      · rw [show (j + 1) * 2 = j * 2 + 1 + 1 by omega]; simpa using q1
      · rw [show (j + 1) * 2 + 1 = j * 2 + 1 + 1 + 1 by omega]; simpa using q2
  · simp only [List.mem_cons] at hu
    rcases hu with rfl | rfl | hu
    · rfl
    · rfl
    · exact h.2.2 u hu
theorem PtL.below {w w' : World} {Q : Nat → Prop} {l : List (Nat × List Pr)} {xs : List Value} (h : PtL w Q l xs) (hB : Below w.heap.size w w') : PtL w' Q l xs :=
  ⟨h.1, fun j x hx => by obtain ⟨pa, pc, q1, q2, q3⟩ := h.2.1 j x hx; exact ⟨pa, pc, q1, q2, q3.below hB⟩, h.2.2⟩
theorem PtL.nil (w : World) (Q : Nat → Prop) : PtL w Q [] [] := ⟨rfl, fun j x hx => by simp at hx, fun u hu => by cases hu⟩
theorem own_ptv {w : World} {Q : Nat → Prop} {B n c : Nat} {a : Option Addr} {l : List (Nat × List Pr)} {xs : List Value} (h : w.ownsRow B 99 2 (.slice a n c) n xs) (hl : PtL w Q l xs) (hQ : ∀ k, B ≤ k → ¬ Q k) : PtV w Q a n l where
  len := by have := h.1; have := hl.1; omega
  cells := fun h0 => by
    rcases h.2 with ⟨e, h'⟩ | ⟨g, cap, cur, e, hg, hc, _⟩
    · omega
    · cases e
      refine ⟨g, 0, rfl, (Array.getElem?_eq_some_iff.1 hc).1, hQ g hg, fun j x hx => ?_⟩
      obtain ⟨pa, pc, q1, q2, q3⟩ := hl.2.1 j x hx
      have c1 := h.cells (g := g) rfl _ _ q1
      have c2 := h.cells (g := g) rfl _ _ q2
      rw [Addr.add_lit] at c1 c2
      simp only [Nat.zero_add] at c1 c2 ⊢
      exact ⟨pa, pc, c1, c2, q3⟩
theorem pt_one (w : World) (base : Nat) (hb : base ≤ w.heap.size) (u v : Value) : (w.alloc (.cells #[u, v] 99)).ownsRow base 99 2 (.slice (some ⟨w.heap.size, 0, none⟩) 1 1) 1 [u, v] :=
  ⟨rfl, .inr ⟨w.heap.size, 1, #[u, v], rfl, hb, World.alloc_heap_new w _, Nat.le_refl _, by unfold maxLen; omega, rfl, rfl⟩⟩
theorem wpList_appT {wr : World} {ops : Array Oper} {rest : List Oper} {o : Oper} {a : Act} {Q : Exit → Act → World → Prop}
    (hgd : o.guard = none) (s x : Operand) (hop : o.op = Op.call { callee := Callee.builtin Builtin.append, args := #[s, x], argTypes := #[32, 32] })
    (base n m c : Nat) (v : Value) (ks xs : List Value) (ad : Option Addr) (hs : a.eval s = v) (hx : a.eval x = .slice ad m c)
    (hown : wr.ownsRow base 99 2 v n ks) (hlen : xs.length = m * 2) (hb : 0 < m → ∃ b off, ad = some ⟨b, off, none⟩ ∧ ∀ j u, xs[j]? = some u → wr.cell? ⟨b, off + j, none⟩ = some u) (hone : ∀ u ∈ xs, u.oneCell' = true) (hnil : ad = none → m = 0 ∧ c = 0) (hm : n + m ≤ 1000000) (hbase : base ≤ wr.heap.size)
    (hK : ∀ ad' c' w', n + m ≤ c' → w'.ownsRow base 99 2 (.slice ad' (n + m) c') (n + m) (ks ++ xs) → Below base wr w' → wpList Tryz.prog ops Q rest (a.put o.dst (.slice ad' (n + m) c')) w') :
    wpList Tryz.prog ops Q (o :: rest) a wr := by
  obtain ⟨i0, hi, hz0, hz1, hz2⟩ := info_parts infoPt
  have hshape : ∀ {W : World} {v : Value} {n : Nat} {xs : List Value}, W.ownsRow base 99 2 v n xs → ∃ ad c, v = .slice ad n c ∧ n ≤ c := fun h => by
    rcases h.2 with ⟨rfl, rfl⟩ | ⟨g, cap, cur, rfl, _, _, hc, _⟩
    · exact ⟨none, 0, rfl, Nat.le_refl _⟩
    · exact ⟨_, _, rfl, hc⟩
  cases ad with
  | none =>
    obtain ⟨rfl, rfl⟩ := hnil rfl
    have hl : xs = [] := List.eq_nil_of_length_eq_zero hlen
    subst hl
    obtain ⟨ad', c', rfl, hc'⟩ := hshape hown
    refine wpList_append_own_none hgd s x 32 hop base 99 i0 2 Tryz.underlying32 hi _ n _ hs hown hx ?_
    have := hK ad' c' wr (by omega) (by simpa using hown) (Below.refl _ _)
    simpa using this
  | some ad =>
    refine wpList_append_own_at _ hgd s x 32 hop base 99 i0 _ 2 32 Tryz.underlying32 hi hz0 hz1 hz2 rfl (by omega) v n _ hs hown ad m c xs hx hlen ?_ hone (by unfold maxLen; omega) (by omega) hbase ?_
    · intro j u hj
      by_cases hm0 : 0 < m
      · obtain ⟨b, off, e, hc⟩ := hb hm0
        cases e
        rw [Addr.add_lit]
        exact hc j u hj
      · have : xs = [] := List.eq_nil_of_length_eq_zero (by omega)
        subst this
        simp at hj
    · intro v' w' h1 h2 _ _
      obtain ⟨ad', c', rfl, hc'⟩ := hshape h1
      exact hK ad' c' w' hc' h1 ((Below.refl base wr).grown h2 hbase (fun k hk => (hown.lt k hk).1))
theorem Pv.mv {w w' : World} {Q X : Nat → Prop} {a : Option Addr} {n c : Nat} {l : List Pr} (h : Pv w Q a n c l) (hT : Turn X w w') (hX : ∀ k, k < w.heap.size → X k → Q k) : Pv w' Q a n c l :=
  ⟨h.1.blocks fun h0 x e => hT.block _ (h.2 h0 x e).1 fun hx => (h.2 h0 x e).2 (hX _ (h.2 h0 x e).1 hx), fun h0 x e => ⟨Nat.lt_of_lt_of_le (h.2 h0 x e).1 hT.size, (h.2 h0 x e).2⟩⟩
theorem PtV.mv {w w' : World} {Q X : Nat → Prop} {a : Option Addr} {n : Nat} {l : List (Nat × List Pr)} (h : PtV w Q a n l) (hT : Turn X w w') (hX : ∀ k, k < w.heap.size → X k → Q k) : PtV w' Q a n l :=
  h.mk' hT.size (fun k h1 h2 => hT.block k h1 fun hx => h2 (hX k h1 hx)) (fun _ _ h2 => h2) fun hp => hp.mv hT hX
theorem PtV.sub {w : World} {Q Q' : Nat → Prop} {a : Option Addr} {n : Nat} {l : List (Nat × List Pr)} (h : PtV w Q a n l) (hq : ∀ k, Q' k → Q k) : PtV w Q' a n l :=
  h.mk' (Nat.le_refl _) (fun _ _ _ => rfl) (fun k _ h2 hq' => h2 (hq k hq')) fun hp => hp.sub hq
theorem Pv.more {w : World} {Q Q' : Nat → Prop} {a : Option Addr} {n c : Nat} {l : List Pr} (h : Pv w Q a n c l) (hq : ∀ k, k < w.heap.size → ¬ Q k → ¬ Q' k) : Pv w Q' a n c l := ⟨h.1, fun h0 x e => ⟨(h.2 h0 x e).1, hq _ (h.2 h0 x e).1 (h.2 h0 x e).2⟩⟩
theorem PtV.more {w : World} {Q Q' : Nat → Prop} {a : Option Addr} {n : Nat} {l : List (Nat × List Pr)} (h : PtV w Q a n l) (hq : ∀ k, k < w.heap.size → ¬ Q k → ¬ Q' k) : PtV w Q' a n l :=
  h.mk' (Nat.le_refl _) (fun _ _ _ => rfl) hq fun hp => hp.more hq
end Go.Proofs.YtdjodigimhgklaaGreatDoor

/- The document's Pairs: all pairs of a memo, sorted. -/
namespace Go.Proofs.YtdjodigimhgklaaGreatDoor
open Go.RowKit Go.Shelf Go.Maps

attribute [local go_sem] Oper.semAt_some

theorem flat_take {l : List (Nat × List Pr)} {k : Nat} {x : Nat × List Pr} (h : l[k]? = some x) : ((l.take (k + 1)).map (·.2)).flatten = ((l.take k).map (·.2)).flatten ++ x.2 := by
  rw [List.take_add_one, h]; simp
theorem flat_le (l : List (Nat × List Pr)) (k : Nat) : ((l.take k).map (·.2)).flatten.length ≤ (l.map (·.2)).flatten.length := by
  conv => rhs; rw [← List.take_append_drop k l, List.map_append, List.flatten_append, List.length_append]
  omega
set_option maxRecDepth 100000 in
set_option maxHeartbeats 8000000 in
theorem dpairs_any (w : World) (Q : Nat → Prop) (pa : Option Addr) (pc : Nat) (ja : Option Addr) (jc : Nat) (m : Wm) (h : WmV w Q pa pc ja jc m) (P : List Pr) (hP : Ris P) (hlk : ∀ x, lookP P x = lookP m.flat x) (hfl : m.flat.length ≤ 4000) (hp4 : m.parts.length ≤ 4) :
    Calls Tryz.prog 45 #[wmVal pa pc ja jc m] w fun e w' => ∃ la lc, e = .returned (.slice la P.length lc) ∧ PrV w' la P.length lc P ∧ Below w.heap.size w w' := by
  obtain ⟨w0, hw0⟩ : ∃ w0, w0 = w.alloc (.cells #[.slice pa m.parts.length pc, .int .i64 (m.last : Int), .slice ja m.jn.length jc] 35) := ⟨_, rfl⟩
  have hB0 : Below w.heap.size w w0 := by rw [hw0]; exact (Below.refl _ w).alloc (Nat.le_refl _) _
  have hb0 : w0.heap[w.heap.size]? = some (.cells #[.slice pa m.parts.length pc, .int .i64 (m.last : Int), .slice ja m.jn.length jc] 35) := by rw [hw0]; exact World.alloc_heap_new w _
  have c0 : w0.cell? ⟨w.heap.size, 0, none⟩ = some (.slice pa m.parts.length pc) := by simp [World.cell?, hb0]
  have H0 : Hid (Below w.heap.size w w0 ∧ WmV w0 Q pa pc ja jc m) := ⟨hB0, h.below hB0⟩
  have HP : Hid (Ris P ∧ (∀ x, lookP P x = lookP m.flat x) ∧ m.flat.length ≤ 4000) := ⟨hP, hlk, hfl⟩
  have hpl : m.parts.length ≤ m.parts.length := Nat.le_refl _
  clear h hP hlk hfl hB0 hb0 hpl
  go_enter Tryz.func45, Tryz.ntmps45
  go_upto_region 2 with fail
  rw [← hw0]
  clear hw0
  go_wp2_with fail
  have HS : Hid (Below w.heap.size w w0 ∧ PrV w0 none 0 0 [] ∧ SortR ((m.parts.take 0).map (·.2)).flatten []) := ⟨H0.out.1, ⟨⟨rfl, fun h0 => by omega⟩, fun _ => ⟨rfl, rfl⟩, Nat.le_refl _⟩, SortR.start⟩
  clear c0
  go_loopg [3, 11] m.parts.length (fun gk v i wr => ∃ (k : Nat) (la : Option Addr) (lc : Nat) (L : List Pr), k + gk = m.parts.length ∧ i = .int .i64 (k : Int) ∧ v = .slice la L.length lc ∧ Hid (Below w0.heap.size w0 wr ∧ PrV wr la L.length lc L ∧ SortR ((m.parts.take k).map (·.2)).flatten L))
  case atStart => exact ⟨0, none, 0, [], by omega, rfl, rfl, ⟨Below.refl _ _, HS.out.2⟩⟩
  case round =>
    clear HS
    obtain ⟨k, la, lc, L, hk, rfl, rfl, HI⟩ := hrel
    cases gk with
    | zero =>
      obtain rfl : k = m.parts.length := by omega
      have i5 : ¬ ((m.parts.length : Nat) : Int) < (m.parts.length : Int) := by omega
      clear hk
      go_wp2_with fail
      go_ret
      have hs := HI.out.2.2
      rw [List.take_length] at hs
      obtain rfl := hs.uniq HP.out.1 HP.out.2.1
      exact ⟨la, lc, rfl, HI.out.2.1, H0.out.1.trans (HI.out.1.mono H0.out.1.size)⟩
    | succ g =>
      obtain ⟨x, hx⟩ : ∃ x, m.parts[k]? = some x := ⟨_, List.getElem?_eq_getElem (by omega)⟩
      obtain ⟨b, o, rfl, _, _, hcs⟩ := (H0.out.2.below HI.out.1).parts.cells (by omega)
      obtain ⟨xa, xc, q1, q2, q3⟩ := hcs k x hx
      have i5 : (k : Int) < (m.parts.length : Int) := by omega
      obtain ⟨wb, hwb⟩ : ∃ wb, wb = wr.alloc (.cells #[.int .i64 (x.1 : Int), .slice xa x.2.length xc] 99) := ⟨_, rfl⟩
      have hBa : Below wr.heap.size wr wb := by rw [hwb]; exact (Below.refl _ wr).alloc (Nat.le_refl _) _
      have hbb : wb.heap[wr.heap.size]? = some (.cells #[.int .i64 (x.1 : Int), .slice xa x.2.length xc] 99) := by rw [hwb]; exact World.alloc_heap_new wr _
      have cb1 : wb.cell? ⟨wr.heap.size, 1, none⟩ = some (.slice xa x.2.length xc) := by simp [World.cell?, hbb]
      have hfx : ((m.parts.take k).map (·.2)).flatten.length + x.2.length ≤ 4000 := by
        have h1 := flat_le m.parts (k + 1)
        rw [flat_take hx, List.length_append] at h1
        have := HP.out.2.2
        unfold Wm.flat at this
        omega
      have HX : Hid (((m.parts.take (k + 1)).map (·.2)).flatten = ((m.parts.take k).map (·.2)).flatten ++ x.2 ∧ ((m.parts.take k).map (·.2)).flatten.length + x.2.length ≤ 4000 ∧ PrV wb xa x.2.length xc x.2 ∧ w0.heap.size ≤ wb.heap.size) := ⟨flat_take hx, hfx, (q3.below hBa).1, by have := HI.out.1.size; have := hBa.size; omega⟩
      have HI2 : Hid (Below wb.heap.size wb wb ∧ Below w0.heap.size w0 wb ∧ PrV wb la L.length lc L ∧ SortR (((m.parts.take k).map (·.2)).flatten ++ x.2.take 0) L) := ⟨Below.refl _ _, HI.out.1.trans (hBa.mono HI.out.1.size), HI.out.2.1.kept hBa, by rw [List.take_zero, List.append_nil]; exact HI.out.2.2⟩
      clear hcs hx q3 hbb hBa HI hfx
      go_upto_region 5 with fail
      rw [← hwb]
      clear hwb
      generalize x.2 = l2 at *
      go_wp2_with fail
      go_loopg [3, 18] l2.length (fun gk v i wr => ∃ (k2 : Nat) (la : Option Addr) (lc : Nat) (L : List Pr), k2 + gk = l2.length ∧ i = .int .i64 (k2 : Int) ∧ v = .slice la L.length lc ∧ Hid (Below wb.heap.size wb wr ∧ Below w0.heap.size w0 wr ∧ PrV wr la L.length lc L ∧ SortR (((m.parts.take k).map (·.2)).flatten ++ l2.take k2) L))
      case atStart => exact ⟨0, la, lc, L, by omega, rfl, rfl, HI2⟩
      case round =>
        clear HI2
        obtain ⟨k2, la2, lc2, L2, hk2, rfl, rfl, HJ⟩ := hrel
        cases gk with
        | zero =>
          obtain rfl : k2 = l2.length := by omega
          have i6 : ¬ ((l2.length : Nat) : Int) < (l2.length : Int) := by omega
          have HN : Hid (Below w0.heap.size w0 wr ∧ PrV wr la2 L2.length lc2 L2 ∧ SortR ((m.parts.take (k + 1)).map (·.2)).flatten L2) := ⟨HJ.out.2.1, HJ.out.2.2.1, by rw [HX.out.1]; have := HJ.out.2.2.2; rwa [List.take_length] at this⟩
          clear hk2 HJ
          go_wp2_with fail
          go_roundg g
          case measure => omega
          case rel => exact ⟨k + 1, la2, lc2, L2, by omega, by go_num, rfl, HN⟩
        | succ g2 =>
          obtain ⟨⟨y, z⟩, hy⟩ : ∃ x, l2[k2]? = some x := ⟨_, List.getElem?_eq_getElem (by omega)⟩
          obtain ⟨b2, o2, rfl, hcs2⟩ := (HX.out.2.2.1.kept HJ.out.1).prs.2 (by omega)
          obtain ⟨q3, q4⟩ := hcs2 _ _ hy
          simp only at q3 q4
          have i6 : (k2 : Int) < (l2.length : Int) := by omega
          obtain ⟨wd, hwd⟩ : ∃ wd, wd = wr.alloc (.cells #[.int .u64 (y : Int), .int .u64 (z : Int)] 39) := ⟨_, rfl⟩
          have hBd : Below wr.heap.size wr wd := by rw [hwd]; exact (Below.refl _ wr).alloc (Nat.le_refl _) _
          have hbd : wd.heap[wr.heap.size]? = some (.cells #[.int .u64 (y : Int), .int .u64 (z : Int)] 39) := by rw [hwd]; exact World.alloc_heap_new wr _
          have cd0 : wd.cell? ⟨wr.heap.size, 0, none⟩ = some (.int .u64 (y : Int)) := by simp [World.cell?, hbd]
          have cd1 : wd.cell? ⟨wr.heap.size, 1, none⟩ = some (.int .u64 (z : Int)) := by simp [World.cell?, hbd]
          have hL2 : L2.length ≤ 4000 := by
            have h1 := HJ.out.2.2.2.len
            rw [List.length_append, List.length_take] at h1
            have := HX.out.2.1
            omega
          have hput := rputC_any wd la2 L2.length lc2 y z L2 (HJ.out.2.2.1.kept hBd) (by omega)
          have HD : Hid (Below wb.heap.size wb wd ∧ Below w0.heap.size w0 wd ∧ SortR (((m.parts.take k).map (·.2)).flatten ++ l2.take k2) L2 ∧ l2.take (k2 + 1) = l2.take k2 ++ [(y, z)]) := ⟨HJ.out.1.trans (hBd.mono HJ.out.1.size), HJ.out.2.1.trans (hBd.mono HJ.out.2.1.size), HJ.out.2.2.2, by rw [List.take_add_one, hy]; rfl⟩
          have hk65 : k2 < 4000 := by have := HX.out.2.1; omega
          clear hcs2 hy hbd hBd HJ
          go_upto_region 8 with fail
          rw [← hwd]
          clear hwd
          go_wp2_with (go_at_call 47; refine hput.mono ?_; clear hput; rintro e w5 ⟨ad, mm, c', L3, rfl, hp3, hR3, hB5, _⟩; have HN : Hid (Below wb.heap.size wb w5 ∧ Below w0.heap.size w0 w5 ∧ PrV w5 ad mm c' L3 ∧ SortR (((m.parts.take k).map (·.2)).flatten ++ l2.take (k2 + 1)) L3 ∧ mm = L3.length) := ⟨HD.out.1.trans (hB5.mono HD.out.1.size), HD.out.2.1.trans (hB5.mono HD.out.2.1.size), hp3, by rw [HD.out.2.2.2, ← List.append_assoc]; exact HD.out.2.2.1.step hR3, hp3.prs.1.symm⟩; clear hp3 hR3 hB5 HD)
          have hmm := HN.out.2.2.2.2
          subst hmm
          have HN2 : Hid (Below wb.heap.size wb w5 ∧ Below w0.heap.size w0 w5 ∧ PrV w5 ad L3.length c' L3 ∧ SortR (((m.parts.take k).map (·.2)).flatten ++ l2.take (k2 + 1)) L3) := ⟨HN.out.1, HN.out.2.1, HN.out.2.2.1, HN.out.2.2.2.1⟩
          go_roundg g2
          case measure => omega
          case rel => exact ⟨k2 + 1, ad, c', L3, by omega, by go_num, rfl, HN2⟩
end Go.Proofs.YtdjodigimhgklaaGreatDoor

/- The law's sources. -/
namespace Go.Proofs.YtdjodigimhgklaaGreatDoor
open Go.RowKit Go.Shelf Go.Maps

attribute [local go_sem] Oper.semAt_some

theorem MeP.sources {w : World} {Q : Nat → Prop} {m d : Nat} {P : List Pr} {b : Bool} (h : MeP w Q m d P b) (hP : P.length ≤ 65536) (t : Nat) :
    Calls Tryz.prog 29 #[.pointer (some ⟨m, 0, none⟩), .int .u64 (t : Int)] w fun e w' => ∃ v, e = .returned v ∧ w'.ownsRow w.heap.size 23 1 v (srcL P t).length ((srcL P t).map idV) ∧ Below w.heap.size w w' := by
  obtain ⟨j, g, vr, pa, pc, F, h1, rfl, _, _⟩ := h
  exact ysources_any w m d j g vr pa pc F h1 hP t
theorem isrc_cell {w : World} {B n c k x : Nat} {ad : Option Addr} {xs : List Nat} (h : w.ownsRow B 23 1 (.slice ad n c) n (xs.map idV)) (hx : xs[k]? = some x) : ∃ g, ad = some ⟨g, 0, none⟩ ∧ w.cell? ⟨g, k, none⟩ = some (.int .u64 (x : Int)) := by
  have hl := h.1
  rw [List.length_map] at hl
  have hk := (List.getElem?_eq_some_iff.1 hx).1
  rcases h.2 with ⟨_, h0⟩ | ⟨g, cap, cur, e, _⟩
  · omega
  · cases e
    have hc := h.cells (g := g) rfl k (idV x) (by rw [List.getElem?_map, hx]; rfl)
    rw [Addr.add_lit] at hc
    simp only [Nat.zero_add] at hc
    exact ⟨g, rfl, hc⟩
theorem src_at {P : List Pr} {k x t : Nat} (h : P[k]? = some (x, t)) : (srcL P t)[(srcL (P.take k) t).length]? = some x ∧ srcL (P.take (k + 1)) t = srcL (P.take k) t ++ [x] := by
  have e : P = P.take k ++ ((x, t) :: P.drop (k + 1)) := by
    conv => lhs; rw [← List.take_append_drop k P, List.drop_eq_getElem_cons (List.getElem?_eq_some_iff.1 h).1, (List.getElem?_eq_some_iff.1 h).2]
  have e2 : srcL P t = srcL (P.take k) t ++ srcL ((x, t) :: P.drop (k + 1)) t := by
    conv => lhs; rw [e]
    exact srcL_app _ _ _
  refine ⟨?_, ?_⟩
  · rw [e2, List.getElem?_append_right (Nat.le_refl _), Nat.sub_self]
    simp [srcL]
  · rw [List.take_add_one, h, srcL_app]
    simp [srcL]
theorem src_off {P : List Pr} {k x y t : Nat} (h : P[k]? = some (x, y)) (hy : y ≠ t) : srcL (P.take (k + 1)) t = srcL (P.take k) t := by
  rw [List.take_add_one, h, srcL_app]
  simp [srcL, hy]
set_option maxRecDepth 100000 in
set_option maxHeartbeats 8000000 in
theorem srclaw_any (w : World) (m d : Nat) (Q : Nat → Prop) (P : List Pr) (b : Bool) (h : MeP w Q m d P b) (la : Option Addr) (lc : Nat) (hl : PrV w la P.length lc P) (hn : P.length ≤ 65536) (t : Nat) :
    Calls Tryz.prog 49 #[.pointer (some ⟨m, 0, none⟩), .slice la P.length lc, .int .u64 (t : Int)] w fun e w' => e = .returned (.bool true) ∧ Below w.heap.size w w' := by
  have H : Hid (MeP w Q m d P b ∧ PrV w la P.length lc P) := ⟨h, hl⟩
  clear h hl
  go_enter Tryz.func49, Tryz.ntmps49
  have H0 : Hid (Below w.heap.size w w) := Below.refl _ w
  go_wp2_with fail
  go_loopg [7] 2 (fun gk v wr => ∃ r : Nat, r + gk = 2 ∧ v = .int .i64 (r : Int) ∧ Hid (Below w.heap.size w wr))
  case atStart => exact ⟨0, rfl, rfl, H0⟩
  case round =>
    clear H0
    obtain ⟨r, hr, rfl, HB⟩ := hrel
    cases gk with
    | zero =>
      obtain rfl : r = 2 := by omega
      have i5 : ¬ (((2 : Nat) : Int) < 2) := by decide
      go_wp2_with fail
      go_ret
      exact ⟨rfl, HB.out⟩
    | succ g =>
      have i5 : (r : Int) < 2 := by omega
      have hsr := (H.out.1.below HB.out).sources hn t
      go_upto_region 5 with (go_at_call 29; refine hsr.mono ?_; clear hsr; rintro e w2 ⟨v, rfl, hown, hB2⟩; obtain ⟨ga, gc, rfl, _⟩ := irow_shape hown; have H2 : Hid (w2.ownsRow wr.heap.size 23 1 (.slice ga (srcL P t).length gc) (srcL P t).length ((srcL P t).map idV) ∧ Below w.heap.size w w2 ∧ w.heap.size ≤ wr.heap.size) := ⟨hown, HB.out.trans (hB2.mono HB.out.size), HB.out.size⟩; clear hown hB2)
      obtain ⟨N, hN⟩ : ∃ N, N = (srcL P t).length := ⟨_, rfl⟩
      have hN2 : N ≤ 65536 := by rw [hN]; exact Nat.le_trans (srcL_len P t) hn
      have HN : Hid (N = (srcL P t).length) := hN
      rw [← hN] at H2 ⊢
      clear hN
      have H3 : Hid (Below w2.heap.size w2 w2) := Below.refl _ _
      go_wp2_with fail
      go_loopg [9, 22] P.length (fun gk n i wx => ∃ (k q : Nat), k + gk = P.length ∧ i = .int .i64 (k : Int) ∧ n = .int .i64 (q : Int) ∧ Hid (Below w2.heap.size w2 wx ∧ q = (srcL (P.take k) t).length))
      case atStart => exact ⟨0, 0, by omega, rfl, rfl, H3.out, by simp [srcL]⟩
      case round =>
        clear H3
        obtain ⟨k, q, hk, rfl, rfl, HI⟩ := hrel
        cases gk with
        | zero =>
          obtain rfl : k = P.length := by omega
          have i6 : ¬ ((P.length : Nat) : Int) < (P.length : Int) := by omega
          obtain rfl : q = N := by rw [HI.out.2, HN.out, List.take_length]
          have i7 : ((q : Int) != (q : Int)) = false := by simp
          clear hk
          have H4 : Hid (Below w.heap.size w wr ∧ (q = 0 ∨ ∃ g, ga = some ⟨g, 0, none⟩ ∧ w.heap.size ≤ g ∧ ∃ cur, wr.heap[g]? = some (.cells cur 23 (0, 0)) ∧ q ≤ cur.size)) := by
            refine ⟨H2.out.2.1.trans (HI.out.1.mono H2.out.2.1.size), ?_⟩
            rcases H2.out.1.2 with ⟨_, h0⟩ | ⟨gg, cap, cur, e, hb, hg, h1, _, h2, _⟩
            · exact .inl h0
            · cases e
              exact .inr ⟨gg, rfl, Nat.le_trans H2.out.2.2 hb, cur, (HI.out.1.block gg (Array.getElem?_eq_some_iff.1 hg).1).trans hg, by omega⟩
          clear HI
          go_wp2_with fail
          go_loopg [52] q (fun gk i wx => ∃ k : Nat, k + gk = q ∧ i = .int .i64 (k : Int) ∧ Hid (Below w.heap.size w wx ∧ (q = 0 ∨ ∃ g, ga = some ⟨g, 0, none⟩ ∧ w.heap.size ≤ g ∧ ∃ cur, wx.heap[g]? = some (.cells cur 23 (0, 0)) ∧ q ≤ cur.size)))
          case atStart => exact ⟨0, by omega, rfl, H4⟩
          case round =>
            clear H4
            obtain ⟨k, hk, rfl, HJ⟩ := hrel
            cases gk with
            | zero =>
              obtain rfl : k = q := by omega
              have i8 : ¬ ((k : Nat) : Int) < (k : Int) := by omega
              have HF : Hid (Below w.heap.size w wr) := HJ.out.1
              clear hk HJ
              go_wp2_with fail
              go_roundg g
              case measure => omega
              case rel => exact ⟨r + 1, by omega, by go_num, HF⟩
            | succ g2 =>
              obtain ⟨hBw, hcase⟩ := HJ.out
              rcases hcase with h0 | ⟨gb, rfl, hgb, cur, hcur, hsz⟩
              · omega
              have hkq : k < q := by omega
              have i8 : (k : Int) < (q : Int) := by omega
              obtain ⟨cv, hck⟩ : ∃ cv, wr.cell? ⟨gb, k, none⟩ = some cv := ⟨cur[k]'(by omega), by simp [World.cell?, hcur, show k < cur.size by omega]⟩
              have hfz : wr.frozen? ⟨gb, k, none⟩ = false := by simp [World.frozen?, hcur]
              have HF : Hid (Below w.heap.size w (wr.setCell ⟨gb, k, none⟩ (.int .u64 0)) ∧ (q = 0 ∨ ∃ g, (some ⟨gb, 0, none⟩ : Option Addr) = some ⟨g, 0, none⟩ ∧ w.heap.size ≤ g ∧ ∃ cur, (wr.setCell ⟨gb, k, none⟩ (.int .u64 0)).heap[g]? = some (.cells cur 23 (0, 0)) ∧ q ≤ cur.size)) := by
                refine ⟨hBw.trans ((turn_setCell wr gb k _).below hBw.size fun i e => by omega), .inr ⟨gb, rfl, hgb, cur.setIfInBounds k (.int .u64 0), ?_, by simpa using hsz⟩⟩
                simp [World.setCell, Array.getElem?_modify, hcur, Array.setIfInBounds]
              clear hcur HJ hsz hBw hgb
              go_wp2_with fail
              go_roundg g2
              case measure => omega
              case rel => exact ⟨k + 1, by omega, by go_num, HF⟩
        | succ g2 =>
          obtain ⟨⟨x, y⟩, hx⟩ : ∃ x, P[k]? = some x := ⟨_, List.getElem?_eq_getElem (by omega)⟩
          obtain ⟨lb, lo, rfl, hcs⟩ := ((H.out.2.kept H2.out.2.1).kept HI.out.1).prs.2 (by omega)
          obtain ⟨q1, q2⟩ := hcs k _ hx
          simp only at q1 q2
          have i6 : (k : Int) < (P.length : Int) := by omega
          obtain ⟨wb, hwb⟩ : ∃ wb, wb = wr.alloc (.cells #[.int .u64 (x : Int), .int .u64 (y : Int)] 39) := ⟨_, rfl⟩
          have hBa : Below wr.heap.size wr wb := by rw [hwb]; exact (Below.refl _ wr).alloc (Nat.le_refl _) _
          have hbb : wb.heap[wr.heap.size]? = some (.cells #[.int .u64 (x : Int), .int .u64 (y : Int)] 39) := by rw [hwb]; exact World.alloc_heap_new wr _
          have cb0 : wb.cell? ⟨wr.heap.size, 0, none⟩ = some (.int .u64 (x : Int)) := by simp [World.cell?, hbb]
          have cb1 : wb.cell? ⟨wr.heap.size, 1, none⟩ = some (.int .u64 (y : Int)) := by simp [World.cell?, hbb]
          have HX : Hid (Below w2.heap.size w2 wb ∧ q = (srcL (P.take k) t).length ∧ P[k]? = some (x, y)) := ⟨HI.out.1.trans (hBa.mono HI.out.1.size), HI.out.2, hx⟩
          have hqk : q ≤ 65536 := by
            rw [HI.out.2]
            refine Nat.le_trans (srcL_len _ _) ?_
            rw [List.length_take]; omega
          clear hcs hx hbb hBa HI
          go_upto_region 9 with fail
          rw [← hwb]
          clear hwb q1 q2
          by_cases hyt : y = t
          · subst hyt
            obtain ⟨s1, s2⟩ := src_at HX.out.2.2
            have hqN : q < N := by rw [HX.out.2.1, HN.out]; exact (List.getElem?_eq_some_iff.1 s1).1
            rw [← HX.out.2.1] at s1
            obtain ⟨gb, rfl, t1⟩ := isrc_cell (irow_moved H2.out.1 fun q hq => HX.out.1.block q (irow_block H2.out.1 q hq).2.1) s1
            have i7 : ¬ ((N : Int) ≤ (q : Int)) := by omega
            have i8 : (q : Int) < (N : Int) := by omega
            have HS : Hid (q + 1 = (srcL (P.take (k + 1)) y).length) := (by rw [s2, List.length_append, ← HX.out.2.1]; rfl : q + 1 = (srcL (P.take (k + 1)) y).length)
            clear s1 s2
            go_upto_region 10 with fail
            go_quiet (fail)
            have HN2 : Hid (Below w2.heap.size w2 (wb.drewN nq) ∧ q + 1 = (srcL (P.take (k + 1)) y).length) := ⟨vbelow_drewN HX.out.1 nq, HS.out⟩
            clear HS HX
            go_wp2_with fail
            go_roundg g2
            case measure => omega
            case rel => exact ⟨k + 1, q + 1, by omega, by go_num, by go_num, HN2⟩
          · have i7 : ((y : Int) != (t : Int)) = true := by simp; omega
            have HN2 : Hid (Below w2.heap.size w2 wb ∧ q = (srcL (P.take (k + 1)) t).length) := ⟨HX.out.1, by rw [src_off HX.out.2.2 hyt]; exact HX.out.2.1⟩
            clear hyt HX
            go_wp2_with fail
            go_roundg g2
            case measure => omega
            case rel => exact ⟨k + 1, q, by omega, by go_num, rfl, HN2⟩
end Go.Proofs.YtdjodigimhgklaaGreatDoor
