import Derived.Test.YtiafhbpklddlnaaC08
import Derived.Test.YtiafhbpklddlnaaC01
import Derived.Test.YtiafhbpklddlnaaC07
/- The walks of withRoom (a copy of bytes with room behind them), of Read and of Raw. -/
namespace Go.Proofs.Ytiafhbpklddlnaa
open Go.RowKit


/-- make with a length and a greater capacity, elements of one cell: the new row, whole -/
theorem wpList_make_part {P : Program} (w : World) {ops : Array Oper} {rest : List Oper} {o : Oper} {a : Act} {Q : Exit → Act → World → Prop}
    (hg : o.guard = none) (l c : Operand) (t : TypeId) (hop : o.op = Op.makeSlice t l c)
    (e : TypeId) (i : TypeInfo) (z : Value) (h1 : P.underlying t = some (.slice e)) (h2 : P.info? e = some i) (h3 : i.zero = some z) (h4 : i.size = 1) (h5 : i.bytes = 1)
    (kl kc : IntKind) (n m : Nat) (L C : Int) (hl : a.eval l = .int kl L) (hc : a.eval c = .int kc C) (hL : L = (n : Int)) (hC : C = (m : Int)) (hnm : n ≤ m) (b2 : m ≤ 281474976710656)
    (hK : ∀ w1, Hid (w1.heap[w.heap.size]? = some (.cells (madeCells z.cells m) e (0, 0))) → Below w.heap.size w w1 → wpList P ops Q rest (a.put o.dst (.slice (some ⟨w.heap.size, 0, none⟩) n m)) w1) :
    wpList P ops Q (o :: rest) a w := by
  refine wpList_plain hg fun K hK' => ?_
  have hrun := run_make (P := P) w t e i z h1 h2 h3 kl kc L C (by omega) (by omega) (by rw [h5]; omega) (by omega)
  subst hL
  subst hC
  simp only [h4, Nat.mul_one, Int.toNat_natCast] at hrun
  unfold Oper.wp
  simp [execOp, hop, hl, hc, hrun, Result.andThen]
  exact hK' _ _ (hK _ (heap_alloc_new w _) ((Below.refl _ _).alloc (Nat.le_refl _) _))

theorem grownBy_of_below {w w' : World} (h : Below w.heap.size w w') : w.grownBy w' none := ⟨h.os, h.tape, h.output, h.size, fun k hk _ => h.block k hk⟩

theorem size_made (z : Array Value) (n : Nat) : (madeCells z n).toList.length = n := by rw [Array.length_toList, size_madeCells]

/-- copy into a row just made: the row holds the bytes -/
theorem copy_fill (w w1 : World) (a : Option Addr) (n cap m : Nat) (l : List UInt8) (z : Array Value) (hb : Bytes w a n l) (hnm : n ≤ m) (hm : m ≤ maxLen)
    (hg : w1.heap[w.heap.size]? = some (.cells (madeCells z m) 5 (0, 0))) (hB : Below w.heap.size w w1) :
    ∃ w2, (Builtin.copy_ #[61, 61] 3 #[.slice (some ⟨w.heap.size, 0, none⟩) n m, .slice a n cap]).run Try.prog w1 = .ok (goInt n) w2 ∧
      w2.ownsRow w.heap.size 5 1 (.slice (some ⟨w.heap.size, 0, none⟩) n m) n (cellsOf l) ∧ w.grownBy w2 none := by
  obtain ⟨i0, hi, hz0, hz1, hz2⟩ := info_parts Try.info5
  have hu := Try.underlying61
  have hsz : (Try.prog.info? 5).map (·.size) = some 1 := by rw [hi]; simp [hz1]
  have hll : (cellsOf l).length = n := by rw [cellsOf_length, hb.1]
  by_cases h0 : n = 0
  · subst h0
    refine ⟨w1, run_copy_none (P := Try.prog) w1 61 61 3 5 _ a 0 m 0 cap hu hsz rfl, ⟨by rw [hll], .inr ⟨w.heap.size, m, _, rfl, Nat.le_refl _, hg, by omega, hm, by rw [size_madeCells]; omega, ?_⟩⟩, grownBy_of_below hB⟩
    have : cellsOf l = [] := List.eq_nil_of_length_eq_zero hll
    rw [this]; simp
  · obtain ⟨b, off, rfl, hc⟩ := hb.2 (by omega)
    have hsrc : ∀ j v, (cellsOf l)[j]? = some v → w1.cell? ((⟨b, off, none⟩ : Addr).add j) = some v := by
      intro j v hj
      have hjl : j < n := by have := (List.getElem?_eq_some_iff.1 hj).1; omega
      rw [cellsOf_get l j (by rw [hb.1]; exact hjl)] at hj
      have hold' : w.cell? ⟨b, off + j, none⟩ = some v := by rw [hc j hjl]; exact hj
      rw [Addr.add_lit, hB.cell (World.block_lt_of_cell? w _ hold')]
      exact hold'
    have hrun := run_copy_row (P := Try.prog) w1 61 61 3 5 w.heap.size 0 n m ⟨b, off, none⟩ n cap (madeCells z m) 5 (cellsOf l) hu hsz hg (by rw [hll]; exact (Nat.min_self n).symm) hsrc (by rw [hll, size_madeCells]; omega) (cellsOf_one l)
    refine ⟨_, by rw [hrun, hll], ⟨by rw [hll]; omega, .inr ⟨w.heap.size, m, _, rfl, Nat.le_refl _, setRow_heap w1 _ _ _ _ _ hg, by omega, hm, ?_, ?_⟩⟩, grownBy_of_below (below_setRow hB (Nat.le_refl _) _)⟩
    · simp [size_madeCells, hll]; omega
    · simp [← hll]

set_option maxHeartbeats 400000 in
theorem withRoom_any (a : Option Addr) (n cap more : Nat) (l : List UInt8) (w : World) (hb : Bytes w a n l) (hm : n + more ≤ 281474976710656) :
    Calls Try.prog 63 #[.slice a n cap, .int .i64 more] w fun e w' => e = .returned (.slice (some ⟨w.heap.size, 0, none⟩) n (n + more)) ∧
      w'.ownsRow w.heap.size 5 1 (.slice (some ⟨w.heap.size, 0, none⟩) n (n + more)) n (cellsOf l) ∧ w.grownBy w' none := by
  obtain ⟨i0, hi, hz0, hz1, hz2⟩ := info_parts Try.info5
  have hu := Try.underlying61
  go_enter Try.func63, Try.ntmps63
  go_wp2_with (at_make; refine wpList_make_part _ rfl _ _ 61 rfl 5 i0 (.int .u8 0) hu hi hz0 hz1 hz2 _ _ n (n + more) _ _ rfl rfl rfl (by omega) (by omega) hm ?_; intro w1 hg1 hb1; obtain ⟨w2, hcp, hfin⟩ := copy_fill w w1 a n cap (n + more) l _ hb (by omega) (by unfold maxLen; omega) hg1.out hb1)
  go_ret
  exact ⟨rfl, hfin⟩

/-- a row that is owned, as bytes -/
theorem ownsRow_bytes {w : World} {B g n cap : Nat} {l : List UInt8} (h : w.ownsRow B 5 1 (.slice (some ⟨g, 0, none⟩) n cap) n (cellsOf l)) : Bytes w (some ⟨g, 0, none⟩) n l ∧ B ≤ g ∧ g < w.heap.size := by
  have hll : l.length = n := by have := h.1; rw [cellsOf_length] at this; omega
  refine ⟨⟨hll, fun _ => ⟨g, 0, rfl, fun i hi => ?_⟩⟩, h.lt g rfl⟩
  have := h.cells (g := g) rfl i _ (cellsOf_get l i (by omega))
  rw [Addr.add_lit] at this
  exact this

set_option maxHeartbeats 400000 in
theorem oread_any (a : Option Addr) (n cap : Nat) (l : List UInt8) (w : World) (hb : Bytes w a n l) (hm : n ≤ 281474976710656) :
    Calls Try.prog 39 #[.slice a n cap] w fun e w' => ∃ r g, e = .returned (.pointer (some ⟨r, 0, none⟩)) ∧ w.heap.size ≤ r ∧ w.heap.size ≤ g ∧ Rd w' r g 0 0 l ∧ w.grownBy w' none := by
  go_enter Try.func39, Try.ntmps39
  go_wp2_with fail
  refine (withRoom_any a n cap 0 l w hb (by omega)).mono ?_
  rintro e w1 ⟨rfl, hown, hg⟩
  go_wp2
  go_ret
  have hll : l.length = n := hb.1
  obtain ⟨hby, _, hlt⟩ := ownsRow_bytes hown
  have hlt' : w.heap.size < w1.heap.size := hlt
  refine ⟨w1.heap.size, w.heap.size, rfl, hg.size, Nat.le_refl _, ?_, grownBy_trans hg (World.grownBy_alloc _ _ _)⟩
  refine ⟨?_, ?_, ?_, ?_, ?_, by omega, by unfold maxLen; omega, by omega, fun i hi => ?_⟩
  · simp
  · simp
  · simp [hll]
  · simp
  · simp
  · obtain ⟨b, off, hb1, hc⟩ := hby.2 (by omega)
    simp only [Option.some.injEq, Addr.mk.injEq, and_true] at hb1
    obtain ⟨rfl, rfl⟩ := hb1
    have := hc i (by omega)
    rw [Nat.zero_add] at this
    exact (World.grownBy_alloc w1 _ none).cell this (by simp)

end Go.Proofs.Ytiafhbpklddlnaa

/- What a list of payloads is in memory: one array in which they stand one behind the other, and a list of slices of it. -/
namespace Go.Proofs.Ytiafhbpklddlnaa
open Go.RowKit

/-- payload k; none where there is none -/
def rc (rs : List (List UInt8)) (k : Nat) : List UInt8 := rs.getD k []
/-- where payload k begins -/
def poffs (rs : List (List UInt8)) (k : Nat) : Nat := (rs.take k).flatten.length
theorem offs_zero (rs : List (List UInt8)) : poffs rs 0 = 0 := rfl
theorem rc_get (rs : List (List UInt8)) (k : Nat) (h : k < rs.length) : rs[k]? = some (rc rs k) := by
  simp [rc, List.getD, h]
theorem offs_succ (rs : List (List UInt8)) (k : Nat) (h : k < rs.length) : poffs rs (k + 1) = poffs rs k + (rc rs k).length := by
  unfold poffs rc
  rw [List.take_add_one, List.flatten_append, List.length_append, List.getD]
  rw [List.getElem?_eq_getElem h]
  simp
theorem offs_all (rs : List (List UInt8)) : poffs rs rs.length = rs.flatten.length := by unfold poffs; rw [List.take_length]
theorem offs_le (rs : List (List UInt8)) (k : Nat) (h : k < rs.length) : poffs rs k + (rc rs k).length ≤ rs.flatten.length := by
  rw [← offs_succ rs k h]
  unfold poffs
  conv => rhs; rw [← List.take_append_drop (k + 1) rs, List.flatten_append, List.length_append]
  omega
theorem offs_le' (rs : List (List UInt8)) (k : Nat) : poffs rs k ≤ rs.flatten.length := by
  unfold poffs
  conv => rhs; rw [← List.take_append_drop k rs, List.flatten_append, List.length_append]
  omega
/-- payload k stands in the row from its beginning on -/
theorem flat_sub (rs : List (List UInt8)) (k : Nat) (h : k < rs.length) : (rs.flatten.drop (poffs rs k)).take (rc rs k).length = rc rs k := by
  have e : rs.flatten = (rs.take k).flatten ++ (rc rs k ++ (rs.drop (k + 1)).flatten) := by
    have e0 : rs.drop k = rc rs k :: rs.drop (k + 1) := by rw [List.drop_eq_getElem_cons h]; simp [rc, List.getD, h]
    conv => lhs; rw [← List.take_append_drop k rs, List.flatten_append, e0, List.flatten_cons]
  rw [e]
  unfold poffs
  rw [List.drop_left, List.take_left]
theorem rc_snoc (rs : List (List UInt8)) (l : List UInt8) (k : Nat) (h : k < rs.length) : rc (rs ++ [l]) k = rc rs k := by
  simp [rc, List.getD, List.getElem?_append_left h]
theorem rc_last (rs : List (List UInt8)) (l : List UInt8) : rc (rs ++ [l]) rs.length = l := by simp [rc]
theorem offs_snoc (rs : List (List UInt8)) (l : List UInt8) (k : Nat) (h : k ≤ rs.length) : poffs (rs ++ [l]) k = poffs rs k := by
  unfold poffs; rw [List.take_append_of_le_length h]

/-- slice k of a list leads to payload k, within block g -/
def Elt (g : Nat) (rs : List (List UInt8)) (xs : List Value) (k : Nat) : Prop :=
  ∃ a c, xs[k]? = some (.slice a (rc rs k).length c) ∧ (rc rs k).length ≤ c ∧ (a = none → (rc rs k).length = 0 ∧ c = 0) ∧ (0 < (rc rs k).length → a = some ⟨g, poffs rs k, none⟩)

/-- the array of a list of payloads: nil, or all of block g -/
def arrV (g na : Nat) : Value := if na = 0 then .slice none 0 0 else .slice (some ⟨g, 0, none⟩) na na

/-- at place o of block p stands a list of payloads: its array A lies in block g and has na bytes, full; its list is v, with the cells xs -/
structure PayAt (w : World) (p o : Nat) (rs : List (List UInt8)) (g na : Nat) (full : List UInt8) (A v : Value) (xs : List Value) : Prop where
  ca : w.cell? ⟨p, o, none⟩ = some A
  cu : w.cell? ⟨p, o + 1, none⟩ = some (.int .i64 rs.flatten.length)
  cl : w.cell? ⟨p, o + 2, none⟩ = some v
  fa : w.frozen? ⟨p, o, none⟩ = false
  fu : w.frozen? ⟨p, o + 1, none⟩ = false
  fl : w.frozen? ⟨p, o + 2, none⟩ = false
  arr : w.ownsRow 0 5 1 A na (cellsOf full)
  sh : (A = .slice none 0 0 ∧ na = 0) ∨ A = .slice (some ⟨g, 0, none⟩) na na
  pre : full.take rs.flatten.length = rs.flatten
  fit : rs.flatten.length ≤ na
  row : w.ownsRow 0 61 1 v rs.length xs
  el : ∀ k, k < rs.length → Elt g rs xs k
  gp : A.ownBlock = some g → g ≠ p
  vp : v.ownBlock ≠ some p
  gv : A.ownBlock = some g → v.ownBlock ≠ some g

/-- a list of payloads, whose blocks are among those of Fp -/
def IsPay (w : World) (p o : Nat) (rs : List (List UInt8)) (Fp : Nat → Prop) : Prop :=
  ∃ g na full A v xs, PayAt w p o rs g na full A v xs ∧ (∀ k, A.ownBlock = some k → Fp k) ∧ (∀ k, v.ownBlock = some k → Fp k)

/-- the block of a list of payloads is as it was but for its three cells -/
def Rest (p o : Nat) (w w' : World) : Prop := (∀ i, i ≠ o → i ≠ o + 1 → i ≠ o + 2 → w'.cell? ⟨p, i, none⟩ = w.cell? ⟨p, i, none⟩) ∧ (∀ i, w'.frozen? ⟨p, i, none⟩ = w.frozen? ⟨p, i, none⟩)
theorem Rest.trans {p o : Nat} {a b c : World} (h : Rest p o a b) (k : Rest p o b c) : Rest p o a c :=
  ⟨fun i h1 h2 h3 => (k.1 i h1 h2 h3).trans (h.1 i h1 h2 h3), fun i => (k.2 i).trans (h.2 i)⟩
theorem Rest.of_block {p o : Nat} {a b : World} (h : b.heap[p]? = a.heap[p]?) : Rest p o a b :=
  ⟨fun _ _ _ _ => World.cell?_of_block h, fun _ => World.frozen?_of_block h⟩
theorem Rest.setCell {p o : Nat} (w : World) (i : Nat) (v : Value) (hi : i = o ∨ i = o + 1 ∨ i = o + 2) : Rest p o w (w.setCell ⟨p, i, none⟩ v) :=
  ⟨fun k h1 h2 h3 => World.cell?_setCell_other _ _ _ _ (fun e => by cases e; omega), fun k => World.frozen?_setCell _ _ _ _⟩

theorem ownsRow_move' {w w' : World} {e : TypeId} {B n : Nat} {v : Value} {xs : List Value} (h : w.ownsRow B e 1 v n xs) (hb : ∀ g, v.ownBlock = some g → w'.heap[g]? = w.heap[g]?) : w'.ownsRow B e 1 v n xs := by
  refine ⟨h.1, ?_⟩
  rcases h.2 with h0 | ⟨g, cap, cur, rfl, h1, h2, h3⟩
  · exact .inl h0
  · exact .inr ⟨g, cap, cur, rfl, h1, by rw [hb g rfl]; exact h2, h3⟩

theorem PayAt.kept {w w' : World} {p o g na : Nat} {rs : List (List UInt8)} {full : List UInt8} {A v : Value} {xs : List Value} (h : PayAt w p o rs g na full A v xs)
    (hp : w'.heap[p]? = w.heap[p]?) (hA : ∀ k, A.ownBlock = some k → w'.heap[k]? = w.heap[k]?) (hv : ∀ k, v.ownBlock = some k → w'.heap[k]? = w.heap[k]?) : PayAt w' p o rs g na full A v xs :=
  { h with
    ca := by rw [World.cell?_of_block hp]; exact h.ca
    cu := by rw [World.cell?_of_block hp]; exact h.cu
    cl := by rw [World.cell?_of_block hp]; exact h.cl
    fa := by rw [World.frozen?_of_block hp]; exact h.fa
    fu := by rw [World.frozen?_of_block hp]; exact h.fu
    fl := by rw [World.frozen?_of_block hp]; exact h.fl
    arr := ownsRow_move' h.arr hA
    row := ownsRow_move' h.row hv }

theorem PayAt.alt {w : World} {p o g na : Nat} {rs : List (List UInt8)} {full : List UInt8} {A v : Value} {xs : List Value} (h : PayAt w p o rs g na full A v xs) : full.length = na := by
  have := h.arr.1
  rw [cellsOf_length] at this
  omega

/-- the bytes of payload k -/
theorem PayAt.bytes {w : World} {p o g na : Nat} {rs : List (List UInt8)} {full : List UInt8} {A v : Value} {xs : List Value} (h : PayAt w p o rs g na full A v xs) (k : Nat) (hk : k < rs.length) :
    ∃ a c, xs[k]? = some (.slice a (rc rs k).length c) ∧ (rc rs k).length ≤ c ∧ (a = none → (rc rs k).length = 0 ∧ c = 0) ∧ Bytes w a (rc rs k).length (rc rs k) := by
  obtain ⟨a, c, h1, h2, h3, h4⟩ := h.el k hk
  refine ⟨a, c, h1, h2, h3, rfl, fun h0 => ⟨g, poffs rs k, h4 h0, fun i hi => ?_⟩⟩
  have hle := offs_le rs k hk
  have hfit := h.fit
  have hal := h.alt
  rcases h.sh with ⟨_, rfl⟩ | hA
  · omega
  · have harr := h.arr
    rw [hA] at harr
    have hcell := (ownsRow_toBytes harr).1.2 (by omega)
    obtain ⟨b, off, e, hc⟩ := hcell
    cases e
    have := hc (poffs rs k + i) (by omega)
    rw [Nat.zero_add] at this
    rw [this]
    congr 2
    have e1 : bt (rc rs k) i = bt rs.flatten (poffs rs k + i) := by
      conv => lhs; rw [← flat_sub rs k hk]
      rw [bt_take _ _ _ hi, bt_drop]
    have e2 : bt rs.flatten (poffs rs k + i) = bt full (poffs rs k + i) := by
      conv => lhs; rw [← h.pre]
      rw [bt_take _ _ _ (by omega)]
    rw [e1, e2]

/-- the cell of slice k -/
theorem PayAt.cell {w : World} {p o g na : Nat} {rs : List (List UInt8)} {full : List UInt8} {A v : Value} {xs : List Value} (h : PayAt w p o rs g na full A v xs) :
    (v = .slice none 0 0 ∧ rs = []) ∨ ∃ b cap, v = .slice (some ⟨b, 0, none⟩) rs.length cap ∧ rs.length ≤ cap ∧ cap ≤ maxLen ∧ ∀ k x, xs[k]? = some x → w.cell? ⟨b, k, none⟩ = some x := by
  rcases h.row.2 with ⟨h0, h1⟩ | ⟨b, cap, cur, hv, _, _, h3, h4, _⟩
  · exact .inl ⟨h0, List.eq_nil_of_length_eq_zero h1⟩
  · refine .inr ⟨b, cap, hv, h3, h4, fun k x hx => ?_⟩
    have := h.row.cells (g := b) (by rw [hv]; rfl) k x hx
    rw [Addr.add_lit, Nat.zero_add] at this
    exact this

end Go.Proofs.Ytiafhbpklddlnaa
