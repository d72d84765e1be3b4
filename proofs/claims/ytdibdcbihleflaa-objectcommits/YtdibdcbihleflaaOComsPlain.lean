/- What a walk of the law ObjectCommits keeps: plain. -/
import Derived.Test.YtdibdcbihleflaaOComsApp
namespace Go.Proofs.Ytdibdcbihleflaa
open Go.RowKit

theorem Box5.set2 {W : World} {B : Nat} {a b c d e : Value} (h : Box5 W B a b c d e) (c' : Value) : Box5 (W.setCell ⟨B, 2, none⟩ c') B a b c' d e := by
  have h' : W.heap[B]? = _ := h
  have hl := h.lt
  unfold Box5
  simp [World.setCell, Array.getElem?_modify, h']
theorem Box5.set4 {W : World} {B : Nat} {a b c d e : Value} (h : Box5 W B a b c d e) (e' : Value) : Box5 (W.setCell ⟨B, 4, none⟩ e') B a b c d e' := by
  have h' : W.heap[B]? = _ := h
  have hl := h.lt
  unfold Box5
  simp [World.setCell, Array.getElem?_modify, h']

theorem belowD {n0 : Nat} {w W : World} (h : Below n0 w W) : Below n0 w W.drew := ⟨h.os, h.tape, h.output, h.size, h.block⟩
theorem Box5.alloc' {W : World} {B : Nat} {a b c d e : Value} (h : Box5 W B a b c d e) (o : Obj) : Box5 (W.alloc o) B a b c d e := h.kept ((Below.refl _ _).alloc (Nat.le_refl _) _)
abbrev Z20 : Obj := .cells #[.int .u64 0, .int .u64 0, .int .u64 0, .int .u64 0, .int .u64 0, .int .u64 0, .int .u64 0, .int .u64 0, .int .u64 0, .int .u64 0, .int .u64 0, .int .u64 0, .int .u64 0, .int .u64 0, .int .u64 0, .int .u64 0, .int .u64 0, .int .u64 0, .int .u64 0, .int .u64 0] 39
abbrev O77 : Obj := .cells #[.int .u64 77] 39
theorem make20 (W : World) : (Instr.makeSlice 40 (.int .i64 0) (.int .i64 20)).run Try.prog W = .ok (.slice (some ⟨W.heap.size, 0, none⟩) 0 20) (W.alloc Z20) := by
  kernel_rfl
theorem own20 (W : World) (B : Nat) (hB : B ≤ W.heap.size) : (W.alloc Z20).ownsRow B 39 1 (.slice (some ⟨W.heap.size, 0, none⟩) 0 20) 0 (([] : List Int).map (Value.int .u64)) :=
  World.ownsRow_made W _ 20 hB (by unfold maxLen; omega) rfl
theorem own_drew {W : World} {B n : Nat} {t : TypeId} {v : Value} {xs : List Value} (h : W.ownsRow B t 1 v n xs) : W.drew.ownsRow B t 1 v n xs := h
theorem app_end {Y W w' : World} {v v' : Value} {n m : Nat} {k l : List Int} (hB : Below Y.heap.size Y W) (h : W.ownsRow Y.heap.size 39 1 v n (k.map (Value.int .u64))) (h' : w'.ownsRow Y.heap.size 39 1 v' (n + m) ((k ++ l).map (Value.int .u64))) (hg : W.grownBy w' v.ownBlock) :
    w'.ownsRow Y.heap.size 39 1 v' (n + m) ((k ++ l).map (Value.int .u64)) ∧ Below Y.heap.size Y w' := ⟨h', hB.trans (below_gr h hB.size hg)⟩
theorem lit_kept {W w' : World} {v : Value} {b : Nat} (h : Ids W (some ⟨b, 0, none⟩) 1 [77]) (hg : W.grownBy w' v.ownBlock) (hv : v.ownBlock ≠ some b) : Ids w' (some ⟨b, 0, none⟩) 1 [77] := by
  refine ⟨rfl, fun h0 => ?_⟩
  obtain ⟨b', off, e, hc⟩ := h.2 h0
  cases e
  refine ⟨b, 0, rfl, fun j x hx => ?_⟩
  have h1 := hc j x hx
  have hl := World.block_lt_of_cell? W _ h1
  simp only [World.cell?] at h1 ⊢
  rw [hg.block b hl (fun e => hv e.symm)]
  exact h1
theorem own_addr1 {W : World} {B n : Nat} {v : Value} {xs : List Value} (h : W.ownsRow B 39 1 v n xs) (h0 : 0 < n) : ∃ g c, v = .slice (some ⟨g, 0, none⟩) n c ∧ n ≤ c := by
  rcases h.2 with ⟨_, h'⟩ | ⟨g, cap, cur, h', _, _, hc, _⟩
  · omega
  · exact ⟨g, cap, h', hc⟩
/-- what holds of the fields of the cut commit -/
structure ComB (t : Int) (pa : Option Addr) (m pc : Nat) (L : List Int) (A : ByteArray) (d : Int) (T : ByteArray) : Prop where
  tree : 0 ≤ t ∧ t < 18446744073709551616
  pars : ∀ x ∈ L, 0 ≤ x ∧ x < 18446744073709551616
  len : m ≤ pc ∧ m ≤ 11 ∧ (pa = none → m = 0 ∧ pc = 0)
  author : A.size ≤ 73
  date : -9223372036854775808 ≤ d ∧ d < 9223372036854775808
  text : T.size ≤ 1033
theorem Com.cut {w : World} {t : Int} {pa : Option Addr} {pn pc m : Nat} {ps : List Int} {au : ByteArray} {d : Int} {tx A T : ByteArray} (h : Com w t pa pn pc ps au d tx) (hm : m = min pn 11) (ha : A.size ≤ 73) (ht : T.size ≤ 1033) : ComB t pa m pc (ps.take m) A d T := by
  obtain ⟨h1, h2, h3⟩ := h.len
  refine ⟨h.tree, fun x hx => h.pars x (List.mem_of_mem_take hx), ⟨by omega, by omega, fun e => ?_⟩, ha, h.date, ht⟩
  have := h3 e
  omega
theorem ComB.com {w : World} {t : Int} {pa : Option Addr} {m pc : Nat} {L : List Int} {A : ByteArray} {d : Int} {T : ByteArray} (h : ComB t pa m pc L A d T) (b : Option Addr) (bc : Nat) (hb : Ids w b m L) (hc : m ≤ bc) (hn : b = none → m = 0 ∧ bc = 0) : Com w t b m bc L A d T := by
  have h1 := h.author
  have h2 := h.text
  have h3 := h.len
  exact ⟨h.tree, hb, h.pars, ⟨hc, by omega, hn⟩, by unfold maxLen; omega, h.date, by unfold maxLen; omega⟩
theorem Ids.take {w : World} {a : Option Addr} {n : Nat} {l : List Int} (h : Ids w a n l) (m : Nat) (hm : m ≤ n) : Ids w a m (l.take m) := by
  refine ⟨by simp [h.1]; omega, fun h0 => ?_⟩
  obtain ⟨b, off, e, hc⟩ := h.2 (by omega)
  refine ⟨b, off, e, fun j x hx => hc j x ?_⟩
  rw [List.getElem?_take] at hx
  split at hx
  · exact hx
  · cases hx

/-- what lies in memory: the full row, the argument's parents, the two commits -/
structure CF (w : World) (t : Int) (pa : Option Addr) (m pc g c4 bo : Nat) (L : List Int) (A : ByteArray) (d : Int) (T : ByteArray) (X : World) : Prop where
  full : Ids X (some ⟨g, 0, none⟩) (m + 1) (L ++ [77])
  arg : Ids X pa m L
  cb : Box5 X w.heap.size (.int .u64 t) (.slice pa m pc) (.string A) (.int .i64 d) (.string T)
  ob : Box5 X bo (.int .u64 t) (.slice (some ⟨g, 0, none⟩) m c4) (.string A) (.int .i64 d) (.string T)
  bel : Below w.heap.size w X
section
variable {w : World} {t : Int} {pa : Option Addr} {m pc g c4 bo : Nat} {L : List Int} {A : ByteArray} {d : Int} {T : ByteArray} {X Y : World}
theorem CF.below (h : CF w t pa m pc g c4 bo L A d T X) (hB : Below X.heap.size X Y) : CF w t pa m pc g c4 bo L A d T Y :=
  ⟨h.full.below hB, h.arg.below hB, h.cb.kept hB, h.ob.kept hB, h.bel.trans (hB.mono h.bel.size)⟩
theorem CF.alloc (h : CF w t pa m pc g c4 bo L A d T X) (o : Obj) : CF w t pa m pc g c4 bo L A d T (X.alloc o) := h.below ((Below.refl _ _).alloc (Nat.le_refl _) _)
theorem CF.pre (h : CF w t pa m pc g c4 bo L A d T X) : Ids X (some ⟨g, 0, none⟩) m L := by
  refine ⟨h.arg.1, fun h0 => ?_⟩
  obtain ⟨b, off, e, hc⟩ := h.full.2 (by omega)
  exact ⟨b, off, e, fun j x hx => hc j x (by rw [List.getElem?_append_left (List.getElem?_eq_some_iff.1 hx).1]; exact hx)⟩
theorem CF.last (h : CF w t pa m pc g c4 bo L A d T X) : X.cell? ⟨g, m, none⟩ = some (.int .u64 77) := by
  obtain ⟨b, off, e, hc⟩ := h.full.2 (by omega)
  cases e
  have hl := h.arg.1
  have := hc m 77 (by rw [← hl]; simp)
  rw [Nat.zero_add] at this
  exact this
theorem cf_new {wc : World} (hlt : L.length = m) (hY : Below w.heap.size w Y) (hlb : w.heap.size < bo) (hYs : Y.heap.size = bo + 1)
    (b5 : Box5 Y bo (.int .u64 t) (.slice pa m pc) (.string A) (.int .i64 d) (.string T)) (b6 : Box5 Y w.heap.size (.int .u64 t) (.slice pa m pc) (.string A) (.int .i64 d) (.string T)) (hids : Ids w pa m L)
    (h : wc.ownsRow Y.heap.size 39 1 (.slice (some ⟨g, 0, none⟩) (m + 1) c4) (m + 1) ((L ++ [77]).map (Value.int .u64))) (hB : Below Y.heap.size Y wc) :
    CF w t pa m pc g c4 bo L A d T (wc.setCell ⟨bo, 1, none⟩ (.slice (some ⟨g, 0, none⟩) m c4)) := by
  have hg := (row_block h g rfl).1
  have hgr : wc.grownBy (wc.setCell ⟨bo, 1, none⟩ (.slice (some ⟨g, 0, none⟩) m c4)) (some bo) :=
    ⟨rfl, rfl, rfl, by simp, fun k hk hne => Below.heap_setCell _ _ _ _ (fun e => hne (by rw [e]))⟩
  have h' := h.kept (row := some bo) hgr (.inr fun e => by have e' : g = bo := (Option.some.inj e); omega)
  have hw' : Below w.heap.size w (wc.setCell ⟨bo, 1, none⟩ (.slice (some ⟨g, 0, none⟩) m c4)) := (hY.trans (hB.mono hY.size)).setCell (p := ⟨bo, 1, none⟩) (by show w.heap.size ≤ bo; omega) _
  refine ⟨?_, hids.below hw', ?_, ?_, hw'⟩
  · have e1 : (L ++ [77]).length = m + 1 := by simp [hlt]
    rw [← e1] at h' ⊢
    obtain ⟨ad, c', e, hI⟩ := own_ids h'
    cases e
    exact hI
  · exact (Below.heap_setCell _ _ _ _ (by show w.heap.size ≠ bo; omega)).trans (b6.kept hB)
  · exact (b5.kept hB).set1 _
/-- the same, with a copy whose row is written to -/
structure CC (w : World) (t : Int) (pa : Option Addr) (m pc g c4 bo : Nat) (L : List Int) (A : ByteArray) (d : Int) (T : ByteArray) (bc : Nat) (ca : Option Addr) (cc : Nat) (W : World) : Prop where
  old : ∃ X xs, CF w t pa m pc g c4 bo L A d T X ∧ Below X.heap.size X W ∧ W.ownsRow X.heap.size 39 1 (.slice ca m cc) m xs
  box : Box5 W bc (.int .u64 t) (.slice ca m cc) (.string A) (.int .i64 d) (.string T)
variable {bc : Nat} {ca : Option Addr} {cc : Nat} {W W' : World}
theorem CC.cf (h : CC w t pa m pc g c4 bo L A d T bc ca cc W) : CF w t pa m pc g c4 bo L A d T W := by
  obtain ⟨X, _, h1, h2, _⟩ := h.old
  exact h1.below h2
theorem CC.at (h : CC w t pa m pc g c4 bo L A d T bc ca cc W) (k : Nat) (hk : k < m) :
    ∃ g2 z, ca = some ⟨g2, 0, none⟩ ∧ W.cell? ⟨g2, k, none⟩ = some z ∧ W.frozen? ⟨g2, k, none⟩ = false ∧ ∀ u, CC w t pa m pc g c4 bo L A d T bc ca cc (W.setCell ⟨g2, k, none⟩ u) := by
  obtain ⟨X, xs, h1, h2, ho⟩ := h.old
  obtain ⟨g2, c2, e2, _⟩ := own_addr1 ho (by omega)
  cases e2
  have hxl := ho.1
  obtain ⟨y, hy⟩ : ∃ y, xs[k]? = some y := ⟨_, List.getElem?_eq_getElem (by omega)⟩
  obtain ⟨hgb, hgl, cur, hcur⟩ := row_block ho g2 rfl
  refine ⟨g2, y, rfl, (ho.cellAt k (by omega)).trans hy, ho.frozenAt _, fun u => ⟨⟨X, _, h1, h2.setCell (p := ⟨g2, k, none⟩) hgb _, (ho.stored k u).1⟩, ?_⟩⟩
  refine (Below.heap_setCell _ _ _ _ ?_).trans h.box
  intro hbe
  have hbb : W.heap[bc]? = some (.cells #[.int .u64 t, .slice (some ⟨g2, 0, none⟩) m cc, .string A, .int .i64 d, .string T] 42 (0, 0)) := h.box
  have hbe' : bc = g2 := hbe
  rw [hbe', hcur] at hbb
  cases hbb
theorem cc_new {W0 W1 : World} (h : CF w t pa m pc g c4 bo L A d T X) (ho : W0.ownsRow X.heap.size 39 1 (.slice ca m cc) m (L.map (Value.int .u64))) (hB : Below X.heap.size X W0) (hB' : Below W0.heap.size W0 W1) :
    CC w t pa m pc g c4 bo L A d T W1.heap.size ca cc (W1.alloc (.cells #[.int .u64 t, .slice ca m cc, .string A, .int .i64 d, .string T] 42)) := by
  have h1 : Below W0.heap.size W0 (W1.alloc (.cells #[.int .u64 t, .slice ca m cc, .string A, .int .i64 d, .string T] 42)) := hB'.alloc hB'.size _
  exact ⟨⟨X, _, h, hB.trans (h1.mono hB.size), kept3 ho h1⟩, Box5.new _ _ _ _ _ _⟩
theorem CC.below (h : CC w t pa m pc g c4 bo L A d T bc ca cc W) (hB : Below W.heap.size W W') : CC w t pa m pc g c4 bo L A d T bc ca cc W' := by
  obtain ⟨X, xs, h1, h2, ho⟩ := h.old
  exact ⟨⟨X, xs, h1, h2.trans (hB.mono h2.size), kept3 ho hB⟩, h.box.kept hB⟩
end
theorem own_lit (W : World) (x : Int) : (W.alloc (.cells #[.int .u64 x] 39)).ownsRow W.heap.size 39 1 (.slice (some ⟨W.heap.size, 0, none⟩) 1 1) 1 ([x].map (Value.int .u64)) :=
  ⟨rfl, .inr ⟨_, 1, _, rfl, Nat.le_refl _, World.alloc_heap_new _ _, Nat.le_refl _, by unfold maxLen; omega, rfl, rfl⟩⟩
theorem own_idsN {W : World} {B n : Nat} {v : Value} {l : List Int} (h : W.ownsRow B 39 1 v n (l.map (Value.int .u64))) : ∃ ad c, v = .slice ad n c ∧ Ids W ad n l := by
  have hn : l.length = n := by have := h.1; rw [List.length_map] at this; omega
  subst hn
  exact own_ids h
theorem comT_len {t : Int} {L : List Int} {A T : ByteArray} (d : Int) : (comT t L A d T).length ≤ 16384 := by
  unfold comT
  split
  · rename_i h0
    exact comB_len d h0
  · simp
end Go.Proofs.Ytdibdcbihleflaa
