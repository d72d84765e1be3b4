import Derived.Test.YtfkepoibgmljkaaB23
import Derived.Test.YtfkepoibgmljkaaB16
import Derived.Test.YtfkepoibgmljkaaB21
/- Rows of one's own whose elements take one cell, of any type; cut out of VSrc. -/
namespace Go.Proofs.Ytfkepoibgmljkaa
open Go.RowKit Go.Shelf Go.Maps

attribute [local go_sem] Oper.semAt_some

theorem irow_shape {w : World} {B n : Nat} {e : TypeId} {v : Value} {xs : List Value} (h : w.ownsRow B e 1 v n xs) : ∃ ad c, v = .slice ad n c ∧ n ≤ c ∧ (ad = none → n = 0 ∧ c = 0) := by
  rcases h.2 with ⟨rfl, rfl⟩ | ⟨g, cap, cur, rfl, _, _, hc, _⟩
  · exact ⟨none, 0, rfl, Nat.le_refl _, fun _ => ⟨rfl, rfl⟩⟩
  · exact ⟨_, _, rfl, hc, fun h => by cases h⟩
theorem irow_block {W : World} {base n : Nat} {e : TypeId} {v : Value} {xs : List Value} (h : W.ownsRow base e 1 v n xs) : ∀ r, v.ownBlock = some r → base ≤ r ∧ r < W.heap.size ∧ ∃ cur, W.heap[r]? = some (.cells cur e (0, 0)) := by
  intro r hr
  rcases h.2 with ⟨rfl, _⟩ | ⟨g, cap, cur, rfl, hb, hg, _⟩
  · cases hr
  · cases hr
    exact ⟨hb, (Array.getElem?_eq_some_iff.1 hg).1, cur, hg⟩
theorem irow_moved {w w' : World} {e : TypeId} {B n z : Nat} {v : Value} {xs : List Value} (h : w.ownsRow B e z v n xs) (hb : ∀ g, v.ownBlock = some g → w'.heap[g]? = w.heap[g]?) : w'.ownsRow B e z v n xs := by
  refine ⟨h.1, ?_⟩
  rcases h.2 with h0 | ⟨g, cap, cur, rfl, h1, h2, h3⟩
  · exact .inl h0
  · exact .inr ⟨g, cap, cur, rfl, h1, by rw [hb g rfl]; exact h2, h3⟩
theorem ikeepsFrom_turn {X : Nat → Prop} {W W' : World} {B : Nat} (h : Turn X W W') (hX : ∀ k o, X k → B ≤ k → W.heap[k]? = some o → o.isCells = true) : KeepsFrom B W W' :=
  ⟨h.size, fun k o hB hk ho => (h.block k (Array.getElem?_eq_some_iff.1 hk).1 (fun hx => by rw [hX k o hx hB hk] at ho; cases ho)).trans hk⟩
end Go.Proofs.Ytfkepoibgmljkaa

/- For RunMerges: a row of slices of bytes of my own, beside a list of pairs that grows. -/
namespace Go.Proofs.Ytfkepoibgmljkaa
open Go.RowKit Go.Shelf Go.Maps

attribute [local go_sem] Oper.semAt_some

theorem infoBytesV : (Try.prog.info? 23).map (fun i => (i.zero, i.size, i.bytes)) = some (some (.slice none 0 0), 1, 24) := by kernel_rfl
/-- blocks of bytes stay as they are -/
def KeepU (Y Y' : World) : Prop := ∀ (q : Nat) cur fz, Y.heap[q]? = some (.cells cur 5 fz) → Y'.heap[q]? = Y.heap[q]?
theorem KeepU.of_below {Y Y' : World} (h : Below Y.heap.size Y Y') : KeepU Y Y' := fun q _ _ hq => h.block q (Array.getElem?_eq_some_iff.1 hq).1
theorem KeepU.of_grown {Y Y' : World} {row : Option Nat} (h : Y.grownBy Y' row) (hr : ∀ r, row = some r → ∃ cur t fz, Y.heap[r]? = some (.cells cur t fz) ∧ t ≠ 5) : KeepU Y Y' := fun q cur fz hq =>
  h.block q (Array.getElem?_eq_some_iff.1 hq).1 (fun e => by
    obtain ⟨cur', t, fz', h1, h2⟩ := hr q e.symm
    rw [hq] at h1
    cases h1
    exact h2 rfl)
theorem KeepU.trans {X Y Z : World} (h : KeepU X Y) (k : KeepU Y Z) : KeepU X Z := fun q cur fz hq => (k q cur fz ((h q cur fz hq).trans hq)).trans (h q cur fz hq)
/-- a slice of bytes that no append of mine changes: it lies below B, or in a block of bytes -/
def SafeB (B : Nat) (Y : World) (v : Value) (x : List UInt8) : Prop :=
  ∃ ad k cp, v = .slice ad k cp ∧ Bytes Y ad k x ∧ (ad = none → k = 0) ∧ k ≤ cp ∧ k ≤ 1000000000 ∧ ∀ a, ad = some a → 0 < k → a.block < B ∨ ∃ cur fz, Y.heap[a.block]? = some (.cells cur 5 fz)
theorem SafeB.kept {B : Nat} {Y Y' : World} {v : Value} {x : List UInt8} (h : SafeB B Y v x) (hB : Below B Y Y') (hK : KeepU Y Y') : SafeB B Y' v x := by
  obtain ⟨ad, k, cp, rfl, hb, h1, h2, h3, h4⟩ := h
  have hblk : ∀ a, ad = some a → 0 < k → Y'.heap[a.block]? = Y.heap[a.block]? := fun a e h0 => by
    rcases h4 a e h0 with h | ⟨cur, fz, h⟩
    · exact hB.block _ h
    · exact hK _ cur fz h
  refine ⟨ad, k, cp, rfl, ⟨hb.1, fun h0 => ?_⟩, h1, h2, h3, fun a e h0 => ?_⟩
  · obtain ⟨b, o, e, hc⟩ := hb.2 h0
    refine ⟨b, o, e, fun i hi => ?_⟩
    have := hblk _ e h0
    simp only at this
    simp only [World.cell?, this]
    exact hc i hi
  · rcases h4 a e h0 with h | ⟨cur, fz, h⟩
    · exact .inl h
    · exact .inr ⟨cur, fz, (hblk a e h0).trans h⟩
theorem SafeB.own {B n : Nat} {Y : World} {v : Value} {x : List UInt8} (h : Y.ownsRow B 5 1 v n (cellsOf x)) (hn : n ≤ 1000000000) : SafeB B Y v x := by
  obtain ⟨ad, c, rfl, h1, h2⟩ := vrow_shape h
  refine ⟨ad, n, c, rfl, vrow_bytes h, fun e => (h2 e).1, h1, hn, fun a e h0 => ?_⟩
  rcases h.2 with ⟨hv, _⟩ | ⟨g, cap, cur, hv, _, hg, _⟩
  · cases hv; cases e
  · cases hv; cases e
    exact .inr ⟨cur, _, hg⟩
theorem SafeB.low {B n c : Nat} {Y : World} {ad : Option Addr} {x : List UInt8} (hb : Bytes Y ad n x) (hnil : ad = none → n = 0) (hcap : n ≤ c) (hn : n ≤ 1000000000) (hB : ∀ a, ad = some a → 0 < n → a.block < B) : SafeB B Y (.slice ad n c) x :=
  ⟨ad, n, c, rfl, hb, hnil, hcap, hn, fun a e h0 => .inl (hB a e h0)⟩

/-- rows put together so far: their values, and what they hold -/
structure RowsO (B : Nat) (Y : World) (v : Value) (bs : List (List UInt8)) : Prop where
  row : ∃ vals, Y.ownsRow B 23 1 v bs.length vals ∧ vals.length = bs.length ∧ ∀ (i : Nat) x, bs[i]? = some x → ∃ u, vals[i]? = some u ∧ SafeB B Y u x
theorem RowsO.nil (B : Nat) (Y : World) : RowsO B Y (.slice none 0 0) [] := ⟨[], World.ownsRow_nil _ _ _ _, rfl, fun i x h => by cases h⟩
theorem RowsO.below {B : Nat} {Y Y' : World} {v : Value} {bs : List (List UInt8)} (h : RowsO B Y v bs) (hBB : B ≤ Y.heap.size) (hB : Below Y.heap.size Y Y') : RowsO B Y' v bs := by
  obtain ⟨vals, h1, h2, h3⟩ := h.row
  refine ⟨vals, irow_moved h1 fun q hq => hB.block q (irow_block h1 q hq).2.1, h2, fun i x hx => ?_⟩
  obtain ⟨u, hu, hs⟩ := h3 i x hx
  exact ⟨u, hu, hs.kept (hB.mono hBB) (KeepU.of_below hB)⟩
theorem RowsO.runs {B : Nat} {Y : World} {v : Value} {bs : List (List UInt8)} (h : RowsO B Y v bs) : ∃ ad c, v = .slice ad bs.length c ∧ RunsB Y ad bs.length c bs := by
  obtain ⟨vals, h1, h2, h3⟩ := h.row
  obtain ⟨ad, c, rfl, hc, _⟩ := irow_shape h1
  refine ⟨ad, c, rfl, rfl, fun h0 => ?_, hc⟩
  rcases h1.2 with ⟨_, e⟩ | ⟨g, cap, cur, e, _⟩
  · omega
  · cases e
    refine ⟨g, 0, rfl, fun i x hx => ?_⟩
    obtain ⟨u, hu, ad, k, cp, rfl, s1, s2, s3, s4, _⟩ := h3 i x hx
    have h4 := h1.cells (g := g) rfl i _ hu
    rw [Addr.add_lit] at h4
    exact ⟨ad, k, cp, h4, s1, s2, s3, s4⟩
end Go.Proofs.Ytfkepoibgmljkaa

/- For RunMerges: a row appended to rows, pairs appended to all. -/
namespace Go.Proofs.Ytfkepoibgmljkaa
open Go.RowKit Go.Shelf Go.Maps

attribute [local go_sem] Oper.semAt_some

/-- blocks of a type stay as they are -/
def KeepT (t : TypeId) (Y Y' : World) : Prop := ∀ (q : Nat) cur fz, Y.heap[q]? = some (.cells cur t fz) → Y'.heap[q]? = Y.heap[q]?
theorem KeepT.u {Y Y' : World} (h : KeepT 5 Y Y') : KeepU Y Y' := h
theorem KeepT.of_below {t : TypeId} {Y Y' : World} (h : Below Y.heap.size Y Y') : KeepT t Y Y' := fun q _ _ hq => h.block q (Array.getElem?_eq_some_iff.1 hq).1
theorem KeepT.of_grown {t t' : TypeId} {Y Y' : World} {row : Option Nat} (h : Y.grownBy Y' row) (hr : ∀ r, row = some r → ∃ cur fz, Y.heap[r]? = some (.cells cur t' fz)) (ht : t' ≠ t) : KeepT t Y Y' := fun q cur fz hq =>
  h.block q (Array.getElem?_eq_some_iff.1 hq).1 (fun e => by
    obtain ⟨cur', fz', h1⟩ := hr q e.symm
    rw [hq] at h1
    cases h1
    exact ht rfl)
theorem RowsO.kept {B : Nat} {Y Y' : World} {v : Value} {bs : List (List UInt8)} (h : RowsO B Y v bs) (hB : Below B Y Y') (hU : KeepT 5 Y Y') (hS : KeepT 23 Y Y') : RowsO B Y' v bs := by
  obtain ⟨vals, h1, h2, h3⟩ := h.row
  refine ⟨vals, irow_moved h1 fun q hq => ?_, h2, fun i x hx => ?_⟩
  · obtain ⟨_, _, cur, hc⟩ := irow_block h1 q hq
    exact hS q cur _ hc
  · obtain ⟨u, hu, hs⟩ := h3 i x hx
    exact ⟨u, hu, hs.kept hB hU⟩
theorem ownP_kept {B n : Nat} {Y Y' : World} {v : Value} {xs : List Value} (h : Y.ownsRow B 32 2 v n xs) (hP : KeepT 32 Y Y') : Y'.ownsRow B 32 2 v n xs :=
  row_movedV h fun r hr => by
    obtain ⟨_, _, cur, hc⟩ := row_blockV h r hr
    exact hP r cur _ hc
theorem wpList_pushO {wr : World} {ops : Array Oper} {rest : List Oper} {o : Oper} {a : Act} {Q : Exit → Act → World → Prop}
    (hgd : o.guard = none) (s x : Operand) (hop : o.op = Op.call { callee := Callee.builtin Builtin.append, args := #[s, x], argTypes := #[26, 26] })
    (B g : Nat) (hBB : B ≤ wr.heap.size) (v u : Value) (bs : List (List UInt8)) (y : List UInt8) (hs : a.eval s = v) (h : RowsO B wr v bs) (hx : a.eval x = .slice (some ⟨g, 0, none⟩) 1 1) (hcell : wr.cell? ⟨g, 0, none⟩ = some u) (hy : SafeB B wr u y) (hn : bs.length ≤ 1000)
    (hK : ∀ v' w', RowsO B w' v' (bs ++ [y]) → Below B wr w' → KeepT 5 wr w' → KeepT 32 wr w' → wpList Try.prog ops Q rest (a.put o.dst v') w') :
    wpList Try.prog ops Q (o :: rest) a wr := by
  obtain ⟨vals, h1, h2, h3⟩ := h.row
  obtain ⟨i0, hi, hz0, hz1, hz2⟩ := info_parts infoBytesV
  have hy2 := hy
  obtain ⟨uad, uk, ucp, rfl, _⟩ := hy2
  refine wpList_append_own_at _ hgd s x 26 hop B 23 i0 _ 1 24 Try.underlying26 hi hz0 hz1 hz2 rfl (by omega) v bs.length vals hs h1 ⟨g, 0, none⟩ 1 1 [.slice uad uk ucp] hx rfl ?_ (by simp [Value.oneCell']) (by unfold maxLen; omega) (by omega) hBB ?_
  · intro j w hj
    match j, hj with
    | 0, hj =>
      simp at hj
      subst hj
      rw [Addr.add_lit]
      exact hcell
  · intro v' w' k1 k2 _ _
    have hr : ∀ r, v.ownBlock = some r → ∃ cur fz, wr.heap[r]? = some (.cells cur 23 fz) := fun r hr => by
      obtain ⟨_, _, cur, hc⟩ := irow_block h1 r hr
      exact ⟨cur, _, hc⟩
    have hB : Below B wr w' := (Below.refl B wr).grown k2 hBB (fun z hz => (irow_block h1 z hz).1)
    have hU : KeepT 5 wr w' := KeepT.of_grown k2 hr (by decide)
    have hP : KeepT 32 wr w' := KeepT.of_grown k2 hr (by decide)
    refine hK v' w' ⟨vals ++ [.slice uad uk ucp], by rw [List.length_append]; exact k1, by simp [h2], fun i x hx => ?_⟩ hB hU hP
    by_cases hi : i < bs.length
    · rw [List.getElem?_append_left hi] at hx
      obtain ⟨u, hu, hs⟩ := h3 i x hx
      exact ⟨u, by rw [List.getElem?_append_left (by omega)]; exact hu, hs.kept hB hU⟩
    · have hib : i = bs.length := by
        have := (List.getElem?_eq_some_iff.1 hx).1
        simp at this
        omega
      subst hib
      rw [List.getElem?_append_right (Nat.le_refl _), Nat.sub_self] at hx
      cases hx
      exact ⟨.slice uad uk ucp, by rw [← h2, List.getElem?_append_right (Nat.le_refl _), Nat.sub_self]; rfl, hy.kept hB hU⟩
theorem wpList_appG {wr : World} {ops : Array Oper} {rest : List Oper} {o : Oper} {a : Act} {Q : Exit → Act → World → Prop}
    (hgd : o.guard = none) (s x : Operand) (hop : o.op = Op.call { callee := Callee.builtin Builtin.append, args := #[s, x], argTypes := #[25, 25] })
    (base n m c : Nat) (v : Value) (k l : List Pr) (ad : Option Addr) (hs : a.eval s = v) (hx : a.eval x = .slice ad m c)
    (hown : wr.ownsRow base 32 2 v n (prCells k)) (hb : Prs wr ad m l) (hnil : ad = none → m = 0 ∧ c = 0) (hm : (n + m) * 16 ≤ 140737488355328) (hbase : base ≤ wr.heap.size)
    (hK : ∀ v' w', w'.ownsRow base 32 2 v' (n + m) (prCells (k ++ l)) → Below base wr w' → KeepT 5 wr w' → KeepT 23 wr w' → wpList Try.prog ops Q rest (a.put o.dst v') w') :
    wpList Try.prog ops Q (o :: rest) a wr := by
  obtain ⟨i0, hi, hz0, hz1, hz2⟩ := info_parts infoPr
  cases ad with
  | none =>
    obtain ⟨rfl, rfl⟩ := hnil rfl
    have hl : l = [] := List.eq_nil_of_length_eq_zero hb.1
    subst hl
    refine wpList_append_own_none hgd s x 25 hop base 32 i0 2 Try.underlying25 hi _ n _ hs hown hx ?_
    exact hK v wr (by simpa using hown) (Below.refl _ _) (fun q _ _ _ => rfl) (fun q _ _ _ => rfl)
  | some ad =>
    refine wpList_append_own_at _ hgd s x 25 hop base 32 i0 _ 2 16 Try.underlying25 hi hz0 hz1 hz2 rfl (by omega) v n _ hs hown ad m c (prCells l) hx (by rw [prCells_len, hb.1]) ?_ (prCells_one l) (by unfold maxLen; omega) hm hbase ?_
    · intro j u hj
      have hl := hb.1
      by_cases hm0 : 0 < m
      · obtain ⟨b, off, e, hc⟩ := hb.2 hm0
        cases e
        rw [Addr.add_lit]
        exact prs_news l off hc j u hj
      · have : l = [] := List.eq_nil_of_length_eq_zero (by omega)
        subst this
        simp [prCells] at hj
    · intro v' w' h1 h2 _ _
      have hr : ∀ r, v.ownBlock = some r → ∃ cur fz, wr.heap[r]? = some (.cells cur 32 fz) := fun r hr => by
        obtain ⟨_, _, cur, hc⟩ := row_blockV hown r hr
        exact ⟨cur, _, hc⟩
      exact hK v' w' (by rw [prCells_append]; exact h1) ((Below.refl base wr).grown h2 hbase (fun k hk => (hown.lt k hk).1)) (KeepT.of_grown h2 hr (by decide)) (KeepT.of_grown h2 hr (by decide))
end Go.Proofs.Ytfkepoibgmljkaa
