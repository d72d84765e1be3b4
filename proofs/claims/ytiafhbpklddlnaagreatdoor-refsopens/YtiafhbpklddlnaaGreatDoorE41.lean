import Derived.Test.YtiafhbpklddlnaaGreatDoorE38
import Derived.Test.YtiafhbpklddlnaaGreatDoorE40
/- The document's refs: Set. -/
namespace Go.Proofs.YtiafhbpklddlnaaGreatDoor
open Go.RowKit Go.Shelf Go.Maps

attribute [local go_sem] Oper.semAt_some

abbrev tR : TypeId := 32
/-- what stands while the document's Set goes through changes -/
structure DS (w W : World) (a : Option Addr) (n c : Nat) (oa : Option Addr) (on oc : Nat) (O : List Ch) (va : Option Addr) (vn vc : Nat) (V : List Ch) : Prop where
  bel : Below w.heap.size w W
  br : Boxed W w.heap.size tR (.slice a n c)
  b1 : Boxed W (w.heap.size + 1) tR (.slice none 0 0)
  bo : Boxed W (w.heap.size + 2) tR (.slice oa on oc)
  och : Chs W oa on O
  oaa : ∀ y, oa = some y → a = some y ∨ (w.heap.size + 3 ≤ y.block ∧ y.block < W.heap.size)
  oad : 0 < on → ∀ y, oa = some y → (y.block < w.heap.size ∨ w.heap.size + 3 ≤ y.block) ∧ y.block < W.heap.size
  row : W.ownsRow (w.heap.size + 3) 38 2 (.slice va vn vc) vn (chCells V)
  ov : 0 < on → ∀ y, oa = some y → (Value.slice va vn vc).ownBlock ≠ some y.block
  lens : on = O.length ∧ vn = V.length
theorem DS.below {w W W' : World} {a : Option Addr} {n c : Nat} {oa : Option Addr} {on oc : Nat} {O : List Ch} {va : Option Addr} {vn vc : Nat} {V : List Ch} (h : DS w W a n c oa on oc O va vn vc V) (hB : Below W.heap.size W W') : DS w W' a n c oa on oc O va vn vc V :=
  { h with
    bel := h.bel.trans (hB.mono h.bel.size)
    br := (hB.block _ h.br.lt).trans h.br
    b1 := (hB.block _ h.b1.lt).trans h.b1
    bo := (hB.block _ h.bo.lt).trans h.bo
    och := h.och.kept hB
    oaa := fun y hy => (h.oaa y hy).imp id (fun e => ⟨e.1, Nat.lt_of_lt_of_le e.2 hB.size⟩)
    oad := fun h0 y hy => ⟨(h.oad h0 y hy).1, Nat.lt_of_lt_of_le (h.oad h0 y hy).2 hB.size⟩
    row := row_movedC h.row (fun g hg => hB.block g (row_blockC h.row g hg).2) }
/-- how the document's Set ends -/
def DSet (w w' : World) (a : Option Addr) (n c : Nat) (ck : Int) (O V : List Ch) (e : Ending) : Prop :=
  Below w.heap.size w w' ∧ ((ck ≠ 0 ∧ e = .returned (.tuple #[.agg #[.slice a n c], .slice none 0 0, .int .i64 ck])) ∨ (ck = 0 ∧ ∃ oa oc va vc, e = .returned (.tuple #[.agg #[.slice oa O.length oc], .slice va V.length vc, .int .i64 0]) ∧ Chs w' oa O.length O ∧ Chs w' va V.length V ∧ (∀ y, oa = some y → a = some y ∨ (w.heap.size ≤ y.block ∧ y.block < w'.heap.size)) ∧ ∀ y, va = some y → w.heap.size ≤ y.block))
theorem DS.bad {w W : World} {a : Option Addr} {n c : Nat} {oa : Option Addr} {on oc : Nat} {O : List Ch} {va : Option Addr} {vn vc : Nat} {V : List Ch} (h : DS w W a n c oa on oc O va vn vc V) : Below w.heap.size w (W.setCell ⟨w.heap.size + 1, 0, none⟩ (.slice a n c)) ∧ (W.setCell ⟨w.heap.size + 1, 0, none⟩ (.slice a n c)).cell? ⟨w.heap.size + 1, 0, none⟩ = some (.slice a n c) :=
  ⟨h.bel.setCell (p := ⟨w.heap.size + 1, 0, none⟩) (by simp) _, (h.b1.set _).cell⟩
theorem DS.with_ {w W w7 : World} {a : Option Addr} {n c : Nat} {oa : Option Addr} {on oc : Nat} {O O' : List Ch} {va : Option Addr} {vn vc : Nat} {V : List Ch} {ad : Option Addr} {p cp : Nat} (h : DS w W a n c oa on oc O va vn vc V) (hB : Below W.heap.size W w7) (ho : w7.ownsRow W.heap.size 38 2 (.slice ad p cp) p (chCells O')) (hp : p = O'.length) :
    DS w (w7.setCell ⟨w.heap.size + 2, 0, none⟩ (.slice ad p cp)) a n c ad p cp O' va vn vc V := by
  have h7 := h.below hB
  have hT : Turn (fun k => k = w.heap.size + 2) w7 (w7.setCell ⟨w.heap.size + 2, 0, none⟩ (.slice ad p cp)) := turn_setCell w7 _ 0 _
  have hW : w.heap.size + 3 ≤ W.heap.size := h.bo.lt
  have hb : ∀ y, ad = some y → W.heap.size ≤ y.block ∧ y.block < w7.heap.size := fun y hy => by
    subst hy
    rcases ho.2 with ⟨e, _⟩ | ⟨g, cap, cur, e, hg, hb, _⟩
    · cases e
    · cases e; exact ⟨hg, (Array.getElem?_eq_some_iff.1 hb).1⟩
  refine ⟨h7.bel.trans (hT.below h7.bel.size (fun k hk => by omega)), (hT.block _ h7.br.lt (by omega)).trans h7.br, (hT.block _ h7.b1.lt (by omega)).trans h7.b1, h7.bo.set _, (own_chs ho hp.symm).turn hT (fun y hy e => by have := (hb y hy).1; omega), fun y hy => .inr ⟨by have := (hb y hy).1; omega, Nat.lt_of_lt_of_le (hb y hy).2 hT.size⟩, fun _ y hy => ⟨.inr (by have := (hb y hy).1; omega), Nat.lt_of_lt_of_le (hb y hy).2 hT.size⟩, row_movedC h7.row (fun g hg => hT.block g (row_blockC h7.row g hg).2 (fun e => by have := (row_blockC h7.row g hg).1; omega)), fun _ y hy e => ?_, ⟨hp, h.lens.2⟩⟩
  have h1 := (row_blockC h.row _ e).2
  have h2 := (hb y hy).1
  omega
theorem DS.push {w W w9 : World} {a : Option Addr} {n c : Nat} {oa : Option Addr} {on oc : Nat} {O : List Ch} {va : Option Addr} {vn vc : Nat} {V : List Ch} {va' : Option Addr} {vc' : Nat} {x : Ch} {o : Obj} (h : DS w W a n c oa on oc O va vn vc V) (ho : w9.ownsRow (w.heap.size + 3) 38 2 (.slice va' (vn + 1) vc') (vn + 1) (chCells V ++ chCells [x])) (hg : (W.alloc o).grownBy w9 (Value.slice va vn vc).ownBlock) (hat : (Value.slice va' (vn + 1) vc').ownBlock = (Value.slice va vn vc).ownBlock ∨ (Value.slice va' (vn + 1) vc').ownBlock = some (W.alloc o).heap.size) :
    DS w w9 a n c oa on oc O va' (vn + 1) vc' (V ++ [x]) := by
  have hBa : Below W.heap.size W (W.alloc o) := (Below.refl _ W).alloc (Nat.le_refl _) o
  have ha := h.below hBa
  have hT : Turn (fun k => (Value.slice va vn vc).ownBlock = some k) (W.alloc o) w9 := Turn.of_grownBy hg (fun k e => .inl e)
  have hrb := fun g e => row_blockC h.row g e
  have nb : ∀ k, k < w.heap.size + 3 → (Value.slice va vn vc).ownBlock ≠ some k := fun k hk e => by have := (hrb k e).1; omega
  refine ⟨ha.bel.trans (hT.below ha.bel.size (fun k hk => by have := (hrb k hk).1; omega)), (hT.block _ ha.br.lt (nb _ (by omega))).trans ha.br, (hT.block _ ha.b1.lt (nb _ (by omega))).trans ha.b1, (hT.block _ ha.bo.lt (nb _ (by omega))).trans ha.bo, ?_, fun y hy => (ha.oaa y hy).imp id (fun e => ⟨e.1, Nat.lt_of_lt_of_le e.2 hT.size⟩), fun h0 y hy => ⟨(h.oad h0 y hy).1, Nat.lt_of_lt_of_le (ha.oad h0 y hy).2 hT.size⟩, by rw [chCells_append]; exact ho, fun h0 y hy e => ?_, ⟨h.lens.1, by rw [List.length_append, ← h.lens.2]; rfl⟩⟩
  · refine ⟨ha.och.1, fun h0 => ?_⟩
    obtain ⟨b, off, e, hc⟩ := ha.och.2 h0
    refine ⟨b, off, e, fun j x hx => ?_⟩
    have := h.ov h0 _ e
    exact ⟨hT.cell (hc j x hx).1 this, hT.cell (hc j x hx).2 this⟩
  · rcases hat with e' | e'
    · exact h.ov h0 y hy (e'.symm.trans e)
    · rw [e'] at e
      have h1 := (h.oad h0 y hy).2
      have h2 : (W.alloc o).heap.size = y.block := by simpa using e
      rw [World.size_alloc] at h2
      omega
theorem chs_lt {w : World} {a : Option Addr} {n : Nat} {l : List Ch} (h : Chs w a n l) (h0 : 0 < n) {y : Addr} (hy : a = some y) : y.block < w.heap.size := by
  obtain ⟨b, off, e, hc⟩ := h.2 h0
  rw [hy] at e
  cases e
  obtain ⟨x, hx⟩ : ∃ x, l[0]? = some x := ⟨_, List.getElem?_eq_getElem (by rw [h.1]; exact h0)⟩
  exact World.block_lt_of_cell? w _ (hc 0 x hx).1
theorem errFrom_drop (g : List UInt8 → Int) (A : List UInt8 → Bool) (l : List Ch) (k : Nat) (x : Ch) (h : l[k]? = some x) : errFrom g A (l.drop k) = if chgErr g A x.1 x.2 ≠ 0 then chgErr g A x.1 x.2 else errFrom g (addA A (bs x.1)) (l.drop (k + 1)) := by
  have hk := (List.getElem?_eq_some_iff.1 h).1
  rw [List.drop_eq_getElem_cons hk, (List.getElem?_eq_some_iff.1 h).2]
  rfl
theorem withFrom_len (c : Ch) : ∀ (L : List Ch) (laid : Bool), (withFrom c laid L).length ≤ L.length + 1
  | [], laid => by cases laid <;> simp [withFrom]
  | x :: r, laid => by
    have i1 := withFrom_len c r (laid || decide (bs c.1 < bs x.1))
    have i2 : (withFrom c true r).length ≤ r.length := by rw [withFrom_true]; exact List.length_filter_le _ _
    unfold withFrom
    cases laid with
    | true =>
      simp only [Bool.true_or, Bool.true_eq_false, false_and, if_false, List.nil_append, List.length_append, List.length_cons]
      split <;> simp <;> omega
    | false =>
      simp only [Bool.false_or] at i1 ⊢
      by_cases h : bs c.1 < bs x.1
      · simp only [h, and_self, if_true, decide_true, List.length_append, List.length_cons, List.length_nil]
        split <;> simp <;> omega
      · simp only [h, and_false, if_false, decide_false, List.nil_append, List.length_append, List.length_cons] at i1 ⊢
        split <;> simp <;> omega
theorem withR_len (L : List Ch) (c : Ch) : (withR L c).length ≤ L.length + 1 := withFrom_len c L _
/-- what stands before each change -/
abbrev DRel (w : World) (a : Option Addr) (n c : Nat) (g : List UInt8 → Int) (L l : List Ch) (m : Nat) (v q : Value) (wr : World) : Prop :=
  ∃ (k : Nat) (A : List UInt8 → Bool) (oa : Option Addr) (on oc : Nat) (O : List Ch) (va : Option Addr) (vn vc : Nat) (V : List Ch), k ≤ m ∧ q = .int .i64 (k : Int) ∧ v = .slice va vn vc ∧ vn ≤ k ∧ on ≤ n + k ∧ Hid (DS w wr a n c oa on oc O va vn vc V ∧ V = newsR g (l.take k) ∧ O = V.foldl withR L ∧ errFrom g (fun _ => false) l = errFrom g A (l.drop k) ∧ ∀ s, A (bs s) = ahR (l.take k) s)
theorem DS.drew {w W : World} {a : Option Addr} {n c : Nat} {oa : Option Addr} {on oc : Nat} {O : List Ch} {va : Option Addr} {vn vc : Nat} {V : List Ch} (h : DS w W a n c oa on oc O va vn vc V) : DS w W.drew a n c oa on oc O va vn vc V := h.below ⟨rfl, rfl, rfl, Nat.le_refl _, fun _ _ => rfl⟩
theorem DS.good {w W : World} {a : Option Addr} {n c : Nat} {oa : Option Addr} {on oc : Nat} {O : List Ch} {va : Option Addr} {vn vc : Nat} {V : List Ch} (h : DS w W a n c oa on oc O va vn vc V) :
    (W.setCell ⟨w.heap.size + 1, 0, none⟩ (.slice oa on oc)).cell? ⟨w.heap.size + 1, 0, none⟩ = some (.slice oa on oc) ∧ DSet w (W.setCell ⟨w.heap.size + 1, 0, none⟩ (.slice oa on oc)) a n c 0 O V (.returned (.tuple #[.agg #[.slice oa on oc], .slice va vn vc, .int .i64 0])) := by
  have hT : Turn (fun k => k = w.heap.size + 1) W (W.setCell ⟨w.heap.size + 1, 0, none⟩ (.slice oa on oc)) := turn_setCell W _ 0 _
  have hb : ∀ y, va = some y → w.heap.size + 3 ≤ y.block := fun y hy => by
    subst hy
    rcases h.row.2 with ⟨e, _⟩ | ⟨g, cap, cur, e, hg, hb, _⟩
    · cases e
    · cases e; exact hg
  have h1 : Chs (W.setCell ⟨w.heap.size + 1, 0, none⟩ (.slice oa on oc)) oa on O := by
    by_cases h0 : 0 < on
    · exact h.och.turn hT (fun y hy e => by have := (h.oad h0 y hy).1; omega)
    · exact ⟨h.och.1, fun h' => absurd h' h0⟩
  have h2 : Chs (W.setCell ⟨w.heap.size + 1, 0, none⟩ (.slice oa on oc)) va vn V := (own_chs h.row h.lens.2.symm).turn hT (fun y hy e => by have := hb y hy; omega)
  obtain ⟨e1, e2⟩ := h.lens
  subst e1 e2
  refine ⟨(h.b1.set _).cell, h.bel.setCell (p := ⟨w.heap.size + 1, 0, none⟩) (by simp) _, .inr ⟨rfl, oa, oc, va, vc, rfl, h1, h2, fun y hy => ?_, fun y hy => by have := hb y hy; omega⟩⟩
  rcases h.oaa y hy with e | e
  · exact .inl e
  · exact .inr ⟨by omega, Nat.lt_of_lt_of_le e.2 hT.size⟩

set_option maxRecDepth 100000 in
set_option maxHeartbeats 8000000 in
theorem dset_any (w : World) (a : Option Addr) (n c : Nat) (L : List Ch) (hL : Chs w a n L) (g : List UInt8 → Int) (N : Nat) (hA : AllR g N L) (hn : n ≤ 1000) (la : Option Addr) (m lc : Nat) (l : List Ch) (hl : Chs w la m l) (hmc : m ≤ lc) (hs : ∀ x ∈ l, x.1.size ≤ 1000) (hm : m ≤ 1000) :
    Calls Tryz.prog 10 #[.agg #[.slice a n c], .slice la m lc] w fun e w' => DSet w w' a n c (chkR g N l) ((newsR g l).foldl withR L) (newsR g l) e := by
  have hll := hl.1
  have hLl := hL.1
  obtain ⟨ck, hck⟩ : ∃ ck, ck = chkR g N l := ⟨_, rfl⟩
  obtain ⟨OF, hOF⟩ : ∃ OF, OF = (newsR g l).foldl withR L := ⟨_, rfl⟩
  obtain ⟨VF, hVF⟩ : ∃ VF, VF = newsR g l := ⟨_, rfl⟩
  rw [← hck, ← hOF, ← hVF]
  have HG : Hid (ck = chkR g N l ∧ OF = (newsR g l).foldl withR L ∧ VF = newsR g l ∧ AllR g N L ∧ Chs w a n L ∧ Chs w la m l ∧ ∀ x ∈ l, x.1.size ≤ 1000) := ⟨hck, hOF, hVF, hA, hL, hl, hs⟩
  clear hck hOF hVF hA hL hs
  obtain ⟨i0, hi, hz0, hz1, hz2⟩ := info_parts infoRef
  go_enter Tryz.func10, Tryz.ntmps10
  go_wp2
  have H0 : Hid (DS w (((w.alloc (.cells #[.slice a n c] 32)).alloc (.cells #[.slice none 0 0] 32)).alloc (.cells #[.slice a n c] 32)) a n c a n c L none 0 0 []) := by
    obtain ⟨w1, h1⟩ : ∃ w1, w1 = w.alloc (.cells #[.slice a n c] 32) := ⟨_, rfl⟩
    obtain ⟨w2, h2⟩ : ∃ w2, w2 = w1.alloc (.cells #[.slice none 0 0] 32) := ⟨_, rfl⟩
    have s1 : w1.heap.size = w.heap.size + 1 := by rw [h1]; simp
    have s2 : w2.heap.size = w.heap.size + 2 := by rw [h2]; simp [s1]
    have b1 : Boxed w1 w.heap.size tR (.slice a n c) := by rw [h1]; exact Boxed.new _ _ _
    have b2 : Boxed w2 (w.heap.size + 1) tR (.slice none 0 0) := by rw [h2, ← s1]; exact Boxed.new _ _ _
    have b3 : Boxed (w2.alloc (.cells #[.slice a n c] 32)) (w.heap.size + 2) tR (.slice a n c) := by rw [← s2]; exact Boxed.new _ _ _
    have hB : Below w.heap.size w (w2.alloc (.cells #[.slice a n c] 32)) := by rw [h2, h1]; exact (((Below.refl _ w).alloc (Nat.le_refl _) _).alloc (by simp) _).alloc (by simp only [World.size_alloc]; omega) _
    rw [← h1, ← h2]
    refine ⟨hB, Boxed.alloc (by rw [h2]; exact b1.alloc _) _, b2.alloc _, b3, HG.out.2.2.2.2.1.kept hB, fun y hy => .inl hy, fun h0 y hy => ?_, World.ownsRow_nil _ _ _ _, (fun _ y _ e => by cases e), ⟨hLl.symm, rfl⟩⟩
    have hy' : y.block < w.heap.size := chs_lt HG.out.2.2.2.2.1 h0 hy
    exact ⟨.inl hy', Nat.lt_of_lt_of_le hy' hB.size⟩
  go_loopw [8, 15] (fun v q wr => DRel w a n c g L l m v q wr) (fun _ q _ => m - (intOf q).toNat)
  case atStart => exact ⟨0, _, a, n, c, L, none, 0, 0, [], Nat.zero_le _, rfl, rfl, Nat.zero_le _, by omega, H0.out, rfl, rfl, rfl, fun _ => rfl⟩
  case round =>
    clear H0
    obtain ⟨k, A, oa, on, oc, O, va, vn, vc, V, hk, rfl, rfl, hvk, hok, H⟩ := hrel
    by_cases hlt : k < m
    · obtain ⟨x, hx⟩ : ∃ x, l[k]? = some x := ⟨_, List.getElem?_eq_getElem (by omega)⟩
      obtain ⟨hD, hV, hO, hE, hAh⟩ := H.out
      obtain ⟨b1, o1, rfl, hc1⟩ := hl.2 (by omega)
      obtain ⟨t1, t2⟩ := hc1 k x hx
      have hB := hD.bel
      have q1 := (hB.cell (p := ⟨b1, o1 + k * 2, none⟩) (World.block_lt_of_cell? w _ t1)).trans t1
      have q2 := (hB.cell (p := ⟨b1, o1 + k * 2 + 1, none⟩) (World.block_lt_of_cell? w _ t2)).trans t2
      have i2 : (k : Int) < (m : Int) := by omega
      have i3 : ¬ m ≤ k := by omega
      rw [errFrom_drop g A l k x hx] at hE
      have hsx := HG.out.2.2.2.2.2.2 x (List.mem_of_getElem? hx)
      have hAx := hAh x.1
      have HX : Hid (l[k]? = some x ∧ V = newsR g (l.take k) ∧ O = V.foldl withR L ∧ ∀ s, A (bs s) = ahR (l.take k) s) := ⟨hx, hV, hO, hAh⟩
      have HD : Hid (DS w wr a n c oa on oc O va vn vc V) := hD
      have HE : Hid (errFrom g (fun _ => false) l = _) := hE
      have htw := fun W (hB : Below w.heap.size w W) => dtwice_any W (some ⟨b1, o1, none⟩) m lc l (HG.out.2.2.2.2.2.1.kept hB) hmc (by omega) k x hx
      rw [← hAx] at htw
      have hgt := fun W (hB : Below w.heap.size w W) => dget_any W a n c L (HG.out.2.2.2.2.1.kept hB) (by omega) x.1
      rw [HG.out.2.2.2.1.get x.1] at hgt
      have hpt := fun W => refPath_any x.1 W (by omega)
      clear hc1 t1 t2 hD hV hO hE hAh hB H hx hAx
      obtain ⟨nm, iv⟩ := x
      simp only at q1 q2 hsx HE htw hgt hpt
      unfold chgErr at HE
      simp only [spotV] at hpt
      generalize pathSpot (bs nm) = se at *
      obtain ⟨e1, e2⟩ := se
      simp only at hpt HE
      have HPT : Hid (∀ W, DS w W a n c oa on oc O va vn vc V → W.cell? ⟨wr.heap.size, 0, none⟩ = some (.string nm) → W.cell? ⟨wr.heap.size, 1, none⟩ = some (.int .u64 iv) → Calls Tryz.prog 28 #[.string nm] W fun e w' => e = .returned (.agg #[.int .i64 (e1 : Int), .int .i64 (e2 : Int)]) ∧ Hid (DS w (w'.alloc (.cells #[.int .i64 (e1 : Int), .int .i64 (e2 : Int)] 75)) a n c oa on oc O va vn vc V) ∧ (w'.alloc (.cells #[.int .i64 (e1 : Int), .int .i64 (e2 : Int)] 75)).cell? ⟨wr.heap.size, 0, none⟩ = some (.string nm) ∧ (w'.alloc (.cells #[.int .i64 (e1 : Int), .int .i64 (e2 : Int)] 75)).cell? ⟨wr.heap.size, 1, none⟩ = some (.int .u64 iv) ∧ wr.heap.size < w'.heap.size) := fun W hD h0 h1 => by
        refine (hpt W).mono ?_
        rintro e w' ⟨rfl, hB⟩
        have hBa := hB.alloc hB.size (.cells #[.int .i64 (e1 : Int), .int .i64 (e2 : Int)] 75)
        have hl0 := World.block_lt_of_cell? W _ h0
        exact ⟨rfl, hD.below hBa, (hBa.cell (p := ⟨wr.heap.size, 0, none⟩) hl0).trans h0, (hBa.cell (p := ⟨wr.heap.size, 1, none⟩) hl0).trans h1, Nat.lt_of_lt_of_le hl0 hB.size⟩
      have hDa : DS w (wr.alloc (.cells #[.string nm, .int .u64 iv] 38)) a n c oa on oc O va vn vc V := HD.out.below ((Below.refl _ wr).alloc (Nat.le_refl _) _)
      have hpw := HPT.out _ hDa (cells_two_new wr (nm, iv) 0 _ rfl) (cells_two_new wr (nm, iv) 1 _ rfl)
      have HBAD : Hid (∀ (W : World) (er : Int), DS w W a n c oa on oc O va vn vc V → er ≠ 0 → errFrom g (fun _ => false) l = er → DSet w (W.setCell ⟨w.heap.size + 1, 0, none⟩ (.slice a n c)) a n c ck OF VF (.returned (.tuple #[.agg #[.slice a n c], .slice none 0 0, .int .i64 er]))) := fun W er hD h0 he => by
        have hce : ck = er := by rw [HG.out.1, set_err (by rw [he]; exact h0), he]
        exact ⟨hD.bad.1, .inl ⟨by rw [hce]; exact h0, by rw [hce]⟩⟩
      clear HPT hpt hDa
      by_cases h1 : e1 = 0
      · subst h1
        rw [if_neg (not_not_intro rfl)] at HE
        simp only [show ((0 : Nat) : Int) = 0 from rfl] at hpw
        have hem : Hid (bs nm = [] ↔ nm.size = 0) := ⟨fun e => by have := bs_len nm; rw [e] at this; simpa using this.symm, fun e => List.eq_nil_of_length_eq_zero (by rw [bs_len]; exact e)⟩
        by_cases h2 : nm.size = 0
        · rw [if_pos (hem.out.2 h2), if_pos (by decide)] at HE
          have HB1 : Hid (∀ W, DS w W a n c oa on oc O va vn vc V → DSet w (W.setCell ⟨w.heap.size + 1, 0, none⟩ (.slice a n c)) a n c ck OF VF (.returned (.tuple #[.agg #[.slice a n c], .slice none 0 0, .int .i64 2]))) := fun W hD => HBAD.out W _ hD (by decide) HE.out
          obtain rfl : nm = ⟨#[]⟩ := by
            obtain ⟨ar⟩ := nm
            have : ar.size = 0 := h2
            rw [Array.eq_empty_of_size_eq_zero this]
          clear hem h2 HBAD HE htw hgt
          go_wp2_with (go_at_call 28; refine hpw.mono ?_; clear hpw; rintro e w2 ⟨rfl, hD2, d0, d1, hs2⟩; have q3 := hD2.out.br.cell; have q4 := hD2.out.b1.cell; have f4 := hD2.out.b1.frozen)
          exact bodyPost_ret (v := .tuple #[.agg #[.slice a n c], .slice none 0 0, .int .i64 2]) (by simp [results, Tryz.results10, go_sem, hD2.out.bad.2]) rfl (HB1.out _ hD2.out)
        · rw [if_neg (fun e => h2 (hem.out.1 e))] at HE
          have HTW : Hid _ := htw
          have h2' : nm.toList.isEmpty = false := by
            have h : (nm.toList == (⟨#[]⟩ : ByteArray).toList) = false := by
              rw [str_beq]
              exact decide_eq_false (fun e => h2 (hem.out.1 e))
            rw [show (⟨#[]⟩ : ByteArray).toList = [] from by simp] at h
            simpa using h
          clear hem htw
          cases hAb : A (bs nm) with
          | true =>
            rw [hAb, if_pos rfl, if_pos (by decide)] at HE
            have HB1 : Hid (∀ W, DS w W a n c oa on oc O va vn vc V → DSet w (W.setCell ⟨w.heap.size + 1, 0, none⟩ (.slice a n c)) a n c ck OF VF (.returned (.tuple #[.agg #[.slice a n c], .slice none 0 0, .int .i64 5]))) := fun W hD => HBAD.out W _ hD (by decide) HE.out
            clear HBAD HE hgt
            go_wp2_with first
              | (go_at_call 28; refine hpw.mono ?_; clear hpw; rintro e w2 ⟨rfl, hD2, d0, d1, hs2⟩; have q3 := hD2.out.br.cell; have q4 := hD2.out.b1.cell; have f4 := hD2.out.b1.frozen)
              | (go_at_call 29; refine (HTW.out _ hD2.out.bel).mono ?_; clear HTW; rintro e w3 ⟨he3, hB3⟩; rw [hAb] at he3; subst he3; have hD3 := hD2.out.below hB3; have q5 := hD3.br.cell; have q6 := hD3.b1.cell; have f6 := hD3.b1.frozen; have HD3 : Hid (DS w w3 a n c oa on oc O va vn vc V) := hD3; clear hD3 hB3)
            exact bodyPost_ret (v := .tuple #[.agg #[.slice a n c], .slice none 0 0, .int .i64 5]) (by simp [results, Tryz.results10, go_sem, HD3.out.bad.2]) rfl (HB1.out _ HD3.out)
          | false =>
            rw [hAb] at HE
            simp only [Bool.false_eq_true, if_false] at HE
            have HGT : Hid _ := hgt
            clear hgt
            have HGV : Hid (∀ gv, gv = g (bs nm) → True) := fun _ _ => trivial
            obtain ⟨gv, hgv⟩ : ∃ gv, gv = g (bs nm) := ⟨_, rfl⟩
            rw [← hgv] at HE HGT
            have HG2 : Hid (gv = g (bs nm)) := hgv
            clear hgv HGV
            by_cases h4 : iv = 0 ∧ gv = 0
            · obtain ⟨rfl, rfl⟩ := h4
              rw [if_pos (show (0 : Int) = 0 ∧ (0 : Int) = 0 from ⟨rfl, rfl⟩), if_pos (show (4 : Int) ≠ 0 by decide)] at HE
              have HB1 : Hid (∀ W, DS w W a n c oa on oc O va vn vc V → DSet w (W.setCell ⟨w.heap.size + 1, 0, none⟩ (.slice a n c)) a n c ck OF VF (.returned (.tuple #[.agg #[.slice a n c], .slice none 0 0, .int .i64 4]))) := fun W hD => HBAD.out W _ hD (by decide) HE.out
              clear HBAD HE
              go_wp2_with first
                | (go_at_call 28; refine hpw.mono ?_; clear hpw; rintro e w2 ⟨rfl, hD2, d0, d1, hs2⟩; have q3 := hD2.out.br.cell; have q4 := hD2.out.b1.cell; have f4 := hD2.out.b1.frozen; have HDC : Hid ((w2.alloc (.cells #[.int .i64 0, .int .i64 (e2 : Int)] 75)).cell? ⟨wr.heap.size, 0, none⟩ = some (.string nm) ∧ (w2.alloc (.cells #[.int .i64 0, .int .i64 (e2 : Int)] 75)).cell? ⟨wr.heap.size, 1, none⟩ = some (.int .u64 0)) := ⟨d0, d1⟩)
                | (go_at_call 29; refine (HTW.out _ hD2.out.bel).mono ?_; clear HTW; rintro e w3 ⟨he3, hB3⟩; rw [hAb] at he3; subst he3; have hD3 := hD2.out.below hB3; have q5 := hD3.br.cell; have q6 := hD3.b1.cell; have f6 := hD3.b1.frozen; have d03 := (hB3.cell (p := ⟨wr.heap.size, 0, none⟩) (World.block_lt_of_cell? _ _ HDC.out.1)).trans HDC.out.1; have d13 := (hB3.cell (p := ⟨wr.heap.size, 1, none⟩) (World.block_lt_of_cell? _ _ HDC.out.2)).trans HDC.out.2; have HD3 : Hid (DS w w3 a n c oa on oc O va vn vc V) := hD3; clear hD3 hB3 d0 d1 q3 q4 f4)
                | (go_at_call 30; refine (HGT.out _ HD3.out.bel).mono ?_; clear HGT; rintro e w4 ⟨rfl, hB4⟩; have hD4 := HD3.out.below hB4; have r5 := hD4.br.cell; have r6 := hD4.b1.cell; have rf6 := hD4.b1.frozen; have d04 := (hB4.cell (p := ⟨wr.heap.size, 0, none⟩) (World.block_lt_of_cell? _ _ d03)).trans d03; have d14 := (hB4.cell (p := ⟨wr.heap.size, 1, none⟩) (World.block_lt_of_cell? _ _ d13)).trans d13; have HD4 : Hid (DS w w4 a n c oa on oc O va vn vc V) := hD4; clear hD4 hB4)
              exact bodyPost_ret (v := .tuple #[.agg #[.slice a n c], .slice none 0 0, .int .i64 4]) (by simp [results, Tryz.results10, go_sem, HD4.out.bad.2]) rfl (HB1.out _ HD4.out)
            · rw [if_neg h4, if_neg (show ¬ (0 : Int) ≠ 0 by decide)] at HE
              have HADD : Hid (∀ s, addA A (bs nm) (bs s) = ahR (l.take (k + 1)) s) := fun s => by
                rw [ahR_take l s k _ HX.out.1, ← HX.out.2.2.2 s]
                simp only [addA]
                rw [Bool.or_comm, Bool.beq_eq_decide_eq]
                congr 1
                exact decide_eq_decide.2 ⟨Eq.symm, Eq.symm⟩
              clear HBAD
              have HSAME : Hid (gv = iv → ∀ W, DS w W a n c oa on oc O va vn vc V → DRel w a n c g L l m (.slice va vn vc) (.int .i64 ((k : Int) + 1)) W) := fun e W hD => by
                refine ⟨k + 1, _, oa, on, oc, O, va, vn, vc, V, by omega, by simp, rfl, by omega, by omega, hD, ?_, HX.out.2.2.1, HE.out, HADD.out⟩
                rw [newsR_take g l k _ HX.out.1, if_pos (by rw [← HG2.out]; exact e), List.append_nil]
                exact HX.out.2.1
              have HNEW : Hid (gv ≠ iv → ∀ W oa' on' oc' va' vc', DS w W a n c oa' on' oc' (withR O (nm, iv)) va' (vn + 1) vc' (V ++ [(nm, iv)]) → DRel w a n c g L l m (.slice va' (vn + 1) vc') (.int .i64 ((k : Int) + 1)) W) := fun e W oa' on' oc' va' vc' hD => by
                have h1 := withR_len O (nm, iv)
                have h2 := hD.lens.1
                have h3 := HD.out.lens.1
                refine ⟨k + 1, _, oa', on', oc', _, va', vn + 1, vc', _, by omega, by simp, rfl, by omega, by omega, hD, ?_, ?_, HE.out, HADD.out⟩
                · rw [newsR_take g l k _ HX.out.1, if_neg (by rw [← HG2.out]; exact e), ← HX.out.2.1]
                · rw [List.foldl_append, ← HX.out.2.2.1]
                  rfl
              have hmeas : m - (intOf (Value.int .i64 ((k : Int) + 1))).toNat < m - (intOf (Value.int .i64 (k : Int))).toNat := by simp [intOf]; omega
              have HM : Hid (m - (intOf (Value.int .i64 ((k : Int) + 1))).toNat < m - (intOf (Value.int .i64 (k : Int))).toNat) := hmeas
              clear hmeas
              clear HADD HE HX HG2
              by_cases hi0 : iv = 0
              · subst hi0
                have hgn : ¬ gv = 0 := fun e => h4 ⟨rfl, e⟩
                have hgb : (gv == 0) = false := beq_eq_false_iff_ne.2 hgn
                go_wp2_with first
                  | (go_at_call 28; refine hpw.mono ?_; clear hpw; rintro e w2 ⟨rfl, hD2, d0, d1, hs2⟩; have q3 := hD2.out.br.cell; have q4 := hD2.out.b1.cell; have f4 := hD2.out.b1.frozen; have HDC : Hid ((w2.alloc (.cells #[.int .i64 0, .int .i64 (e2 : Int)] 75)).cell? ⟨wr.heap.size, 0, none⟩ = some (.string nm) ∧ (w2.alloc (.cells #[.int .i64 0, .int .i64 (e2 : Int)] 75)).cell? ⟨wr.heap.size, 1, none⟩ = some (.int .u64 0)) := ⟨d0, d1⟩)
                  | (go_at_call 29; refine (HTW.out _ hD2.out.bel).mono ?_; clear HTW; rintro e w3 ⟨he3, hB3⟩; rw [hAb] at he3; subst he3; have hD3 := hD2.out.below hB3; have q5 := hD3.br.cell; have q6 := hD3.b1.cell; have f6 := hD3.b1.frozen; have d03 := (hB3.cell (p := ⟨wr.heap.size, 0, none⟩) (World.block_lt_of_cell? _ _ HDC.out.1)).trans HDC.out.1; have d13 := (hB3.cell (p := ⟨wr.heap.size, 1, none⟩) (World.block_lt_of_cell? _ _ HDC.out.2)).trans HDC.out.2; have HD3 : Hid (DS w w3 a n c oa on oc O va vn vc V) := hD3; clear hD3 hB3 d0 d1 q3 q4 f4 hD2 HDC hs2)
                  | (go_at_call 30; refine (HGT.out _ HD3.out.bel).mono ?_; rintro e w4 ⟨rfl, hB4⟩; have hD4 := HD3.out.below hB4; have r5 := hD4.br.cell; have r6 := hD4.b1.cell; have rf6 := hD4.b1.frozen; have d04 := (hB4.cell (p := ⟨wr.heap.size, 0, none⟩) (World.block_lt_of_cell? _ _ d03)).trans d03; have d14 := (hB4.cell (p := ⟨wr.heap.size, 1, none⟩) (World.block_lt_of_cell? _ _ d13)).trans d13; have HD4 : Hid (DS w w4 a n c oa on oc O va vn vc V) := hD4; clear hD4 hB4 q5 q6 f6)
                have HD4' : Hid (DS w w4.drew a n c oa on oc O va vn vc V) := HD4.out.drew
                go_region_held3 (fun W => W.cell? ⟨w.heap.size, 0, none⟩ = some (.slice a n c) ∧ W.cell? ⟨wr.heap.size, 0, none⟩ = some (.string nm) ∧ W.cell? ⟨wr.heap.size, 1, none⟩ = some (.int .u64 0))
                  (first
                    | (go_split_ands; go_keep)
                    | (exact ⟨r5, d04, d14⟩)
                    | (exact ⟨s5, d05, d15⟩))
                  ((go_at_call 30; refine (HGT.out _ HD4'.out.bel).mono ?_; rintro e w5 ⟨rfl, hB5⟩; have hD5 := HD4'.out.below hB5; have s5 := hD5.br.cell; have d05 := (hB5.cell (p := ⟨wr.heap.size, 0, none⟩) (World.block_lt_of_cell? _ _ d04)).trans d04; have d15 := (hB5.cell (p := ⟨wr.heap.size, 1, none⟩) (World.block_lt_of_cell? _ _ d14)).trans d14; have HD5 : Hid (DS w w5 a n c oa on oc O va vn vc V) := hD5; clear hD5 hB5))
                have k7 := HD5.out.bo.cell
                go_wp2_with first
                  | (go_at_call 31; refine (dwith_any w5 oa on oc O HD5.out.och (by omega) nm 0).mono ?_; rintro e w7 ⟨ad, cp, rfl, hrow7, hB7⟩; obtain ⟨p7, hp7⟩ : ∃ p7, p7 = (withR O (nm, 0)).length := ⟨_, rfl⟩; rw [← hp7] at hrow7 ⊢; have HD7 : Hid (DS w (w7.setCell ⟨w.heap.size + 2, 0, none⟩ (.slice ad p7 cp)) a n c ad p7 cp (withR O (nm, 0)) va vn vc V) := HD5.out.with_ hB7 hrow7 hp7; have k8 := (HD5.out.below hB7).bo.cell; have k9 := (HD5.out.below hB7).bo.frozen; have d07 := (hB7.cell (p := ⟨wr.heap.size, 0, none⟩) (World.block_lt_of_cell? _ _ d05)).trans d05; have d17 := (hB7.cell (p := ⟨wr.heap.size, 1, none⟩) (World.block_lt_of_cell? _ _ d15)).trans d15; have hne7 := Nat.ne_of_gt HD.out.bo.lt; have HCT : Hid _ := cells_two_new (w7.setCell ⟨w.heap.size + 2, 0, none⟩ (.slice ad p7 cp)) (nm, 0); rw [World.size_setCell] at HCT; have hbs7 : w.heap.size + 3 ≤ w7.heap.size := (by have h1 := HD7.out.bo.lt; simp only [World.size_setCell] at h1; omega); clear hrow7 hp7 hB7)
                  | (at_builtin; (refine wpList_append_own_at _ rfl _ _ 30 rfl (w.heap.size + 3) 38 i0 _ 2 24 Tryz.underlying30 hi hz0 hz1 hz2 rfl (by decide) _ _ _ rfl (HD7.out.row.alloc _) ⟨w7.heap.size, 0, none⟩ 1 1 (chCells [(nm, 0)]) rfl rfl HCT.out (chCells_one _) (by unfold maxLen; omega) (by omega) (by simp; omega) ?_; intro v' w9 hown9 hgr9 _ hat9; obtain ⟨ad9, cp9, hv9, _⟩ := row_shapeC hown9; subst hv9; have HD9 : Hid _ := HD7.out.push hown9 hgr9 hat9; clear hown9 hgr9 hat9))
                exact ⟨HNEW.out hgn _ _ _ _ _ _ HD9.out, HM.out⟩
              · have hib : (iv == 0) = false := beq_eq_false_iff_ne.2 hi0
                by_cases hgi : gv = iv
                · subst hgi
                  go_wp2_with first
                    | (go_at_call 28; refine hpw.mono ?_; clear hpw; rintro e w2 ⟨rfl, hD2, d0, d1, hs2⟩; have q3 := hD2.out.br.cell; have q4 := hD2.out.b1.cell; have f4 := hD2.out.b1.frozen; have HDC : Hid ((w2.alloc (.cells #[.int .i64 0, .int .i64 (e2 : Int)] 75)).cell? ⟨wr.heap.size, 0, none⟩ = some (.string nm) ∧ (w2.alloc (.cells #[.int .i64 0, .int .i64 (e2 : Int)] 75)).cell? ⟨wr.heap.size, 1, none⟩ = some (.int .u64 gv)) := ⟨d0, d1⟩)
                    | (go_at_call 29; refine (HTW.out _ hD2.out.bel).mono ?_; clear HTW; rintro e w3 ⟨he3, hB3⟩; rw [hAb] at he3; subst he3; have hD3 := hD2.out.below hB3; have q5 := hD3.br.cell; have q6 := hD3.b1.cell; have f6 := hD3.b1.frozen; have d03 := (hB3.cell (p := ⟨wr.heap.size, 0, none⟩) (World.block_lt_of_cell? _ _ HDC.out.1)).trans HDC.out.1; have d13 := (hB3.cell (p := ⟨wr.heap.size, 1, none⟩) (World.block_lt_of_cell? _ _ HDC.out.2)).trans HDC.out.2; have HD3 : Hid (DS w w3 a n c oa on oc O va vn vc V) := hD3; clear hD3 hB3 d0 d1 q3 q4 f4 hD2 HDC hs2)
                  have HD3' : Hid (DS w w3.drew a n c oa on oc O va vn vc V) := HD3.out.drew
                  go_region_held3 (fun W => W.cell? ⟨w.heap.size, 0, none⟩ = some (.slice a n c) ∧ W.cell? ⟨wr.heap.size, 0, none⟩ = some (.string nm) ∧ W.cell? ⟨wr.heap.size, 1, none⟩ = some (.int .u64 gv))
                    (first
                      | (go_split_ands; go_keep)
                      | (exact ⟨q5, d03, d13⟩)
                      | (exact ⟨r5, d04, d14⟩))
                    ((go_at_call 30; refine (HGT.out _ HD3'.out.bel).mono ?_; rintro e w4 ⟨rfl, hB4⟩; have hD4 := HD3'.out.below hB4; have r5 := hD4.br.cell; have d04 := (hB4.cell (p := ⟨wr.heap.size, 0, none⟩) (World.block_lt_of_cell? _ _ d03)).trans d03; have d14 := (hB4.cell (p := ⟨wr.heap.size, 1, none⟩) (World.block_lt_of_cell? _ _ d13)).trans d13; have HD4 : Hid (DS w w4 a n c oa on oc O va vn vc V) := hD4; clear hD4 hB4))
                  go_wp2
                  exact ⟨HSAME.out trivial _ HD4.out, HM.out⟩
                · have hgb : (gv == iv) = false := beq_eq_false_iff_ne.2 hgi
                  go_wp2_with first
                    | (go_at_call 28; refine hpw.mono ?_; clear hpw; rintro e w2 ⟨rfl, hD2, d0, d1, hs2⟩; have q3 := hD2.out.br.cell; have q4 := hD2.out.b1.cell; have f4 := hD2.out.b1.frozen; have HDC : Hid ((w2.alloc (.cells #[.int .i64 0, .int .i64 (e2 : Int)] 75)).cell? ⟨wr.heap.size, 0, none⟩ = some (.string nm) ∧ (w2.alloc (.cells #[.int .i64 0, .int .i64 (e2 : Int)] 75)).cell? ⟨wr.heap.size, 1, none⟩ = some (.int .u64 iv)) := ⟨d0, d1⟩)
                    | (go_at_call 29; refine (HTW.out _ hD2.out.bel).mono ?_; clear HTW; rintro e w3 ⟨he3, hB3⟩; rw [hAb] at he3; subst he3; have hD3 := hD2.out.below hB3; have q5 := hD3.br.cell; have q6 := hD3.b1.cell; have f6 := hD3.b1.frozen; have d03 := (hB3.cell (p := ⟨wr.heap.size, 0, none⟩) (World.block_lt_of_cell? _ _ HDC.out.1)).trans HDC.out.1; have d13 := (hB3.cell (p := ⟨wr.heap.size, 1, none⟩) (World.block_lt_of_cell? _ _ HDC.out.2)).trans HDC.out.2; have HD3 : Hid (DS w w3 a n c oa on oc O va vn vc V) := hD3; clear hD3 hB3 d0 d1 q3 q4 f4 hD2 HDC hs2)
                  have HD3' : Hid (DS w w3.drew a n c oa on oc O va vn vc V) := HD3.out.drew
                  go_region_held3 (fun W => W.cell? ⟨w.heap.size, 0, none⟩ = some (.slice a n c) ∧ W.cell? ⟨wr.heap.size, 0, none⟩ = some (.string nm) ∧ W.cell? ⟨wr.heap.size, 1, none⟩ = some (.int .u64 iv))
                    (first
                      | (go_split_ands; go_keep)
                      | (exact ⟨q5, d03, d13⟩)
                      | (exact ⟨r5, d04, d14⟩))
                    ((go_at_call 30; refine (HGT.out _ HD3'.out.bel).mono ?_; rintro e w4 ⟨rfl, hB4⟩; have hD4 := HD3'.out.below hB4; have r5 := hD4.br.cell; have d04 := (hB4.cell (p := ⟨wr.heap.size, 0, none⟩) (World.block_lt_of_cell? _ _ d03)).trans d03; have d14 := (hB4.cell (p := ⟨wr.heap.size, 1, none⟩) (World.block_lt_of_cell? _ _ d13)).trans d13; have HD4 : Hid (DS w w4 a n c oa on oc O va vn vc V) := hD4; clear hD4 hB4))
                  have k7 := HD4.out.bo.cell
                  go_wp2_with first
                    | (go_at_call 31; refine (dwith_any w4 oa on oc O HD4.out.och (by omega) nm iv).mono ?_; rintro e w7 ⟨ad, cp, rfl, hrow7, hB7⟩; obtain ⟨p7, hp7⟩ : ∃ p7, p7 = (withR O (nm, iv)).length := ⟨_, rfl⟩; rw [← hp7] at hrow7 ⊢; have HD7 : Hid (DS w (w7.setCell ⟨w.heap.size + 2, 0, none⟩ (.slice ad p7 cp)) a n c ad p7 cp (withR O (nm, iv)) va vn vc V) := HD4.out.with_ hB7 hrow7 hp7; have k8 := (HD4.out.below hB7).bo.cell; have k9 := (HD4.out.below hB7).bo.frozen; have d07 := (hB7.cell (p := ⟨wr.heap.size, 0, none⟩) (World.block_lt_of_cell? _ _ d04)).trans d04; have d17 := (hB7.cell (p := ⟨wr.heap.size, 1, none⟩) (World.block_lt_of_cell? _ _ d14)).trans d14; have hne7 := Nat.ne_of_gt HD.out.bo.lt; have HCT : Hid _ := cells_two_new (w7.setCell ⟨w.heap.size + 2, 0, none⟩ (.slice ad p7 cp)) (nm, iv); rw [World.size_setCell] at HCT; have hbs7 : w.heap.size + 3 ≤ w7.heap.size := (by have h1 := HD7.out.bo.lt; simp only [World.size_setCell] at h1; omega); clear hrow7 hp7 hB7)
                    | (at_builtin; (refine wpList_append_own_at _ rfl _ _ 30 rfl (w.heap.size + 3) 38 i0 _ 2 24 Tryz.underlying30 hi hz0 hz1 hz2 rfl (by decide) _ _ _ rfl (HD7.out.row.alloc _) ⟨w7.heap.size, 0, none⟩ 1 1 (chCells [(nm, iv)]) rfl rfl HCT.out (chCells_one _) (by unfold maxLen; omega) (by omega) (by simp; omega) ?_; intro v' w9 hown9 hgr9 _ hat9; obtain ⟨ad9, cp9, hv9, _⟩ := row_shapeC hown9; subst hv9; have HD9 : Hid _ := HD7.out.push hown9 hgr9 hat9; clear hown9 hgr9 hat9))
                  exact ⟨HNEW.out hgi _ _ _ _ _ _ HD9.out, HM.out⟩
      · rw [if_pos h1] at HE
        have h1' : ¬ (e1 : Int) = 0 := by omega
        rw [if_pos h1'] at HE
        have h1b : ((e1 : Int) == 0) = false := beq_eq_false_iff_ne.2 h1'
        have HB1 : Hid (∀ W, DS w W a n c oa on oc O va vn vc V → DSet w (W.setCell ⟨w.heap.size + 1, 0, none⟩ (.slice a n c)) a n c ck OF VF (.returned (.tuple #[.agg #[.slice a n c], .slice none 0 0, .int .i64 (e1 : Int)]))) := fun W hD => HBAD.out W _ hD h1' HE.out
        clear HBAD HE h1 htw hgt
        go_wp2_with (go_at_call 28; refine hpw.mono ?_; clear hpw; rintro e w2 ⟨rfl, hD2, d0, d1, hs2⟩; have q3 := hD2.out.br.cell; have q4 := hD2.out.b1.cell; have f4 := hD2.out.b1.frozen)
        have s0 : (w2.alloc (.cells #[.int .i64 (e1 : Int), .int .i64 (e2 : Int)] 75)).cell? ⟨w2.heap.size, 0, none⟩ = some (.int .i64 (e1 : Int)) := by simp only [World.cell?, World.alloc_heap_new]; rfl
        have hls := HD.out.b1.lt
        have hne : w2.heap.size ≠ w.heap.size + 1 := by omega
        go_region
        go_wp2
        have hD3 : DS w (w2.alloc (.cells #[.int .i64 (e1 : Int), .int .i64 (e2 : Int)] 75)).drew a n c oa on oc O va vn vc V := hD2.out.below ⟨rfl, rfl, rfl, Nat.le_refl _, fun _ _ => rfl⟩
        have cE := hD3.bad.2
        exact bodyPost_ret (v := .tuple #[.agg #[.slice a n c], .slice none 0 0, .int .i64 (e1 : Int)]) (by simp [results, Tryz.results10, go_sem, hD2.out.bad.2]) rfl (HB1.out _ hD3)
    · obtain rfl : k = m := by omega
      obtain ⟨hD, hV, hO, hE, _⟩ := H.out
      rw [List.take_of_length_le (by omega)] at hV
      rw [List.drop_of_length_le (by omega)] at hE
      have hvf : VF = V := by rw [HG.out.2.2.1, hV]
      have hof : OF = O := by rw [HG.out.2.1, hO, hV]
      have hon := hD.lens.1
      have hck : ck = if 64 < on then 3 else 0 := by rw [HG.out.1, set_cnt HG.out.2.2.2.1 hE, ← HG.out.2.1, hof, hon]
      subst hvf hof
      have i2 : ¬ (k : Int) < (k : Int) := by omega
      have k0 := hD.br.cell
      have k1 := hD.b1.cell
      have k1f := hD.b1.frozen
      have k2 := hD.bo.cell
      have HD : Hid (DS w wr a n c oa on oc OF va vn vc VF) := hD
      clear hD hV hO hE hon H
      by_cases h64 : 64 < on
      · rw [if_pos h64] at hck
        have h64' : (64 : Int) < (on : Int) := by omega
        subst hck
        have HB := HD.out.bad
        have HF : Hid (DSet w (wr.setCell ⟨w.heap.size + 1, 0, none⟩ (.slice a n c)) a n c 3 OF VF (.returned (.tuple #[.agg #[.slice a n c], .slice none 0 0, .int .i64 3]))) := ⟨HB.1, .inl ⟨by decide, rfl⟩⟩
        have HB2 : Hid _ := HB.2
        clear HB
        go_wp2
        exact bodyPost_ret (v := .tuple #[.agg #[.slice a n c], .slice none 0 0, .int .i64 3]) (by simp [results, Tryz.results10, go_sem, HB2.out]) rfl HF.out
      · rw [if_neg h64] at hck
        have h64' : ¬ (64 : Int) < (on : Int) := by omega
        subst hck
        have HB2 : Hid _ := HD.out.good.1
        go_wp2
        exact bodyPost_ret (v := .tuple #[.agg #[.slice oa on oc], .slice va vn vc, .int .i64 0]) (by simp [results, Tryz.results10, go_sem, HB2.out]) rfl HD.out.good.2
end Go.Proofs.YtiafhbpklddlnaaGreatDoor
