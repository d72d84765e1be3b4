import Derived.Test.YtiafhbpklddlnaaR08
import Derived.Test.YtiafhbpklddlnaaR10
import Derived.Test.YtiafhbpklddlnaaR04
/- What a list of payloads is in memory: one array in which they stand one behind the other, and a list of slices of it. -/
namespace Go.Proofs.Ytiafhbpklddlnaa
open Go.RowKit

/-- payload k; none where there is none -/
def rc (rs : List (List UInt8)) (k : Nat) : List UInt8 := rs.getD k []
/-- where payload k begins -/
def poffs (rs : List (List UInt8)) (k : Nat) : Nat := (rs.take k).flatten.length
theorem offs_zero (rs : List (List UInt8)) : poffs rs 0 = 0 := rfl
theorem rc_get (rs : List (List UInt8)) (k : Nat) (h : k < rs.length) : rs[k]? = some (rc rs k) := by
  simp [rc, List.getD, h]
theorem offs_succ (rs : List (List UInt8)) (k : Nat) (h : k < rs.length) : poffs rs (k + 1) = poffs rs k + (rc rs k).length := by
  unfold poffs rc
  rw [List.take_add_one, List.flatten_append, List.length_append, List.getD]
  rw [List.getElem?_eq_getElem h]
  simp
theorem offs_all (rs : List (List UInt8)) : poffs rs rs.length = rs.flatten.length := by unfold poffs; rw [List.take_length]
theorem offs_le (rs : List (List UInt8)) (k : Nat) (h : k < rs.length) : poffs rs k + (rc rs k).length ≤ rs.flatten.length := by
  rw [← offs_succ rs k h]
  unfold poffs
  conv => rhs; rw [← List.take_append_drop (k + 1) rs, List.flatten_append, List.length_append]
  omega
theorem offs_le' (rs : List (List UInt8)) (k : Nat) : poffs rs k ≤ rs.flatten.length := by
  unfold poffs
  conv => rhs; rw [← List.take_append_drop k rs, List.flatten_append, List.length_append]
  omega
/-- payload k stands in the row from its beginning on -/
theorem flat_sub (rs : List (List UInt8)) (k : Nat) (h : k < rs.length) : (rs.flatten.drop (poffs rs k)).take (rc rs k).length = rc rs k := by
  have e : rs.flatten = (rs.take k).flatten ++ (rc rs k ++ (rs.drop (k + 1)).flatten) := by
    have e0 : rs.drop k = rc rs k :: rs.drop (k + 1) := by rw [List.drop_eq_getElem_cons h]; simp [rc, List.getD, h]
    conv => lhs; rw [← List.take_append_drop k rs, List.flatten_append, e0, List.flatten_cons]
  rw [e]
  unfold poffs
  rw [List.drop_left, List.take_left]
theorem rc_snoc (rs : List (List UInt8)) (l : List UInt8) (k : Nat) (h : k < rs.length) : rc (rs ++ [l]) k = rc rs k := by
  simp [rc, List.getD, List.getElem?_append_left h]
theorem rc_last (rs : List (List UInt8)) (l : List UInt8) : rc (rs ++ [l]) rs.length = l := by simp [rc]
theorem offs_snoc (rs : List (List UInt8)) (l : List UInt8) (k : Nat) (h : k ≤ rs.length) : poffs (rs ++ [l]) k = poffs rs k := by
  unfold poffs; rw [List.take_append_of_le_length h]

/-- slice k of a list leads to payload k, within block g -/
def Elt (g : Nat) (rs : List (List UInt8)) (xs : List Value) (k : Nat) : Prop :=
  ∃ a c, xs[k]? = some (.slice a (rc rs k).length c) ∧ (rc rs k).length ≤ c ∧ (a = none → (rc rs k).length = 0 ∧ c = 0) ∧ (0 < (rc rs k).length → a = some ⟨g, poffs rs k, none⟩)

/-- the array of a list of payloads: nil, or all of block g -/
def arrV (g na : Nat) : Value := if na = 0 then .slice none 0 0 else .slice (some ⟨g, 0, none⟩) na na

/-- at place o of block p stands a list of payloads: its array A lies in block g and has na bytes, full; its list is v, with the cells xs -/
structure PayAt (w : World) (p o : Nat) (rs : List (List UInt8)) (g na : Nat) (full : List UInt8) (A v : Value) (xs : List Value) : Prop where
  ca : w.cell? ⟨p, o, none⟩ = some A
  cu : w.cell? ⟨p, o + 1, none⟩ = some (.int .i64 rs.flatten.length)
  cl : w.cell? ⟨p, o + 2, none⟩ = some v
  fa : w.frozen? ⟨p, o, none⟩ = false
  fu : w.frozen? ⟨p, o + 1, none⟩ = false
  fl : w.frozen? ⟨p, o + 2, none⟩ = false
  arr : w.ownsRow 0 5 1 A na (cellsOf full)
  sh : (A = .slice none 0 0 ∧ na = 0) ∨ A = .slice (some ⟨g, 0, none⟩) na na
  pre : full.take rs.flatten.length = rs.flatten
  fit : rs.flatten.length ≤ na
  row : w.ownsRow 0 61 1 v rs.length xs
  el : ∀ k, k < rs.length → Elt g rs xs k
  gp : A.ownBlock = some g → g ≠ p
  vp : v.ownBlock ≠ some p
  gv : A.ownBlock = some g → v.ownBlock ≠ some g

/-- a list of payloads, whose blocks are among those of Fp -/
def IsPay (w : World) (p o : Nat) (rs : List (List UInt8)) (Fp : Nat → Prop) : Prop :=
  ∃ g na full A v xs, PayAt w p o rs g na full A v xs ∧ (∀ k, A.ownBlock = some k → Fp k) ∧ (∀ k, v.ownBlock = some k → Fp k)

/-- the block of a list of payloads is as it was but for its three cells -/
def Rest (p o : Nat) (w w' : World) : Prop := (∀ i, i ≠ o → i ≠ o + 1 → i ≠ o + 2 → w'.cell? ⟨p, i, none⟩ = w.cell? ⟨p, i, none⟩) ∧ (∀ i, w'.frozen? ⟨p, i, none⟩ = w.frozen? ⟨p, i, none⟩)
theorem Rest.trans {p o : Nat} {a b c : World} (h : Rest p o a b) (k : Rest p o b c) : Rest p o a c :=
  ⟨fun i h1 h2 h3 => (k.1 i h1 h2 h3).trans (h.1 i h1 h2 h3), fun i => (k.2 i).trans (h.2 i)⟩
theorem Rest.of_block {p o : Nat} {a b : World} (h : b.heap[p]? = a.heap[p]?) : Rest p o a b :=
  ⟨fun _ _ _ _ => World.cell?_of_block h, fun _ => World.frozen?_of_block h⟩
theorem Rest.setCell {p o : Nat} (w : World) (i : Nat) (v : Value) (hi : i = o ∨ i = o + 1 ∨ i = o + 2) : Rest p o w (w.setCell ⟨p, i, none⟩ v) :=
  ⟨fun k h1 h2 h3 => World.cell?_setCell_other _ _ _ _ (fun e => by cases e; omega), fun k => World.frozen?_setCell _ _ _ _⟩

theorem ownsRow_move' {w w' : World} {e : TypeId} {B n : Nat} {v : Value} {xs : List Value} (h : w.ownsRow B e 1 v n xs) (hb : ∀ g, v.ownBlock = some g → w'.heap[g]? = w.heap[g]?) : w'.ownsRow B e 1 v n xs := by
  refine ⟨h.1, ?_⟩
  rcases h.2 with h0 | ⟨g, cap, cur, rfl, h1, h2, h3⟩
  · exact .inl h0
  · exact .inr ⟨g, cap, cur, rfl, h1, by rw [hb g rfl]; exact h2, h3⟩

theorem PayAt.kept {w w' : World} {p o g na : Nat} {rs : List (List UInt8)} {full : List UInt8} {A v : Value} {xs : List Value} (h : PayAt w p o rs g na full A v xs)
    (hp : w'.heap[p]? = w.heap[p]?) (hA : ∀ k, A.ownBlock = some k → w'.heap[k]? = w.heap[k]?) (hv : ∀ k, v.ownBlock = some k → w'.heap[k]? = w.heap[k]?) : PayAt w' p o rs g na full A v xs :=
  { h with
    ca := by rw [World.cell?_of_block hp]; exact h.ca
    cu := by rw [World.cell?_of_block hp]; exact h.cu
    cl := by rw [World.cell?_of_block hp]; exact h.cl
    fa := by rw [World.frozen?_of_block hp]; exact h.fa
    fu := by rw [World.frozen?_of_block hp]; exact h.fu
    fl := by rw [World.frozen?_of_block hp]; exact h.fl
    arr := ownsRow_move' h.arr hA
    row := ownsRow_move' h.row hv }

theorem PayAt.alt {w : World} {p o g na : Nat} {rs : List (List UInt8)} {full : List UInt8} {A v : Value} {xs : List Value} (h : PayAt w p o rs g na full A v xs) : full.length = na := by
  have := h.arr.1
  rw [cellsOf_length] at this
  omega

/-- the bytes of payload k -/
theorem PayAt.bytes {w : World} {p o g na : Nat} {rs : List (List UInt8)} {full : List UInt8} {A v : Value} {xs : List Value} (h : PayAt w p o rs g na full A v xs) (k : Nat) (hk : k < rs.length) :
    ∃ a c, xs[k]? = some (.slice a (rc rs k).length c) ∧ (rc rs k).length ≤ c ∧ (a = none → (rc rs k).length = 0 ∧ c = 0) ∧ Bytes w a (rc rs k).length (rc rs k) := by
  obtain ⟨a, c, h1, h2, h3, h4⟩ := h.el k hk
  refine ⟨a, c, h1, h2, h3, rfl, fun h0 => ⟨g, poffs rs k, h4 h0, fun i hi => ?_⟩⟩
  have hle := offs_le rs k hk
  have hfit := h.fit
  have hal := h.alt
  rcases h.sh with ⟨_, rfl⟩ | hA
  · omega
  · have harr := h.arr
    rw [hA] at harr
    have hcell := (ownsRow_toBytes harr).1.2 (by omega)
    obtain ⟨b, off, e, hc⟩ := hcell
    cases e
    have := hc (poffs rs k + i) (by omega)
    rw [Nat.zero_add] at this
    rw [this]
    congr 2
    have e1 : bt (rc rs k) i = bt rs.flatten (poffs rs k + i) := by
      conv => lhs; rw [← flat_sub rs k hk]
      rw [bt_take _ _ _ hi, bt_drop]
    have e2 : bt rs.flatten (poffs rs k + i) = bt full (poffs rs k + i) := by
      conv => lhs; rw [← h.pre]
      rw [bt_take _ _ _ (by omega)]
    rw [e1, e2]

/-- the cell of slice k -/
theorem PayAt.cell {w : World} {p o g na : Nat} {rs : List (List UInt8)} {full : List UInt8} {A v : Value} {xs : List Value} (h : PayAt w p o rs g na full A v xs) :
    (v = .slice none 0 0 ∧ rs = []) ∨ ∃ b cap, v = .slice (some ⟨b, 0, none⟩) rs.length cap ∧ rs.length ≤ cap ∧ cap ≤ maxLen ∧ ∀ k x, xs[k]? = some x → w.cell? ⟨b, k, none⟩ = some x := by
  rcases h.row.2 with ⟨h0, h1⟩ | ⟨b, cap, cur, hv, _, _, h3, h4, _⟩
  · exact .inl ⟨h0, List.eq_nil_of_length_eq_zero h1⟩
  · refine .inr ⟨b, cap, hv, h3, h4, fun k x hx => ?_⟩
    have := h.row.cells (g := b) (by rw [hv]; rfl) k x hx
    rw [Addr.add_lit, Nat.zero_add] at this
    exact this

end Go.Proofs.Ytiafhbpklddlnaa

/- What a Journal of the program is in memory, and the walks of its calls that read: Len, Size, Record. -/
namespace Go.Proofs.Ytiafhbpklddlnaa
open Go.RowKit

/-- block j of w is a Journal over the disk in block d, of that file: its records, how many bytes they have, whether it is cut -/
structure JAt (w : World) (j d : Nat) (nm : ByteArray) (rs : List (List UInt8)) (sz : Nat) (cut : Bool) (Fp : Nat → Prop) : Prop where
  c0 : w.cell? ⟨j, 0, none⟩ = some (.pointer (some ⟨d, 0, none⟩))
  c1 : w.cell? ⟨j, 1, none⟩ = some (.string nm)
  pay : IsPay w j 2 rs Fp
  c5 : w.cell? ⟨j, 5, none⟩ = some (.int .i64 sz)
  c6 : w.cell? ⟨j, 6, none⟩ = some (.bool cut)
  f5 : w.frozen? ⟨j, 5, none⟩ = false
  f6 : w.frozen? ⟨j, 6, none⟩ = false
  fj : Fp j
  lt : ∀ k, Fp k → k < w.heap.size
  cnt : rs.length * 9 + rs.flatten.length ≤ sz
  small : sz ≤ 4194304

theorem IsPay.kept {w w' : World} {p o : Nat} {rs : List (List UInt8)} {Fp : Nat → Prop} (h : IsPay w p o rs Fp) (hp : Fp p) (hk : ∀ k, Fp k → w'.heap[k]? = w.heap[k]?) : IsPay w' p o rs Fp := by
  obtain ⟨g, na, full, A, v, xs, h, h1, h2⟩ := h
  exact ⟨g, na, full, A, v, xs, h.kept (hk p hp) (fun k h => hk k (h1 k h)) (fun k h => hk k (h2 k h)), h1, h2⟩

theorem JAt.kept {w w' : World} {j d : Nat} {nm : ByteArray} {rs : List (List UInt8)} {sz : Nat} {cut : Bool} {Fp : Nat → Prop} (h : JAt w j d nm rs sz cut Fp) (hs : w.heap.size ≤ w'.heap.size) (hk : ∀ k, Fp k → w'.heap[k]? = w.heap[k]?) : JAt w' j d nm rs sz cut Fp :=
  { h with
    c0 := by rw [World.cell?_of_block (hk j h.fj)]; exact h.c0
    c1 := by rw [World.cell?_of_block (hk j h.fj)]; exact h.c1
    pay := h.pay.kept h.fj hk
    c5 := by rw [World.cell?_of_block (hk j h.fj)]; exact h.c5
    c6 := by rw [World.cell?_of_block (hk j h.fj)]; exact h.c6
    f5 := by rw [World.frozen?_of_block (hk j h.fj)]; exact h.f5
    f6 := by rw [World.frozen?_of_block (hk j h.fj)]; exact h.f6
    lt := fun k hf => Nat.lt_of_lt_of_le (h.lt k hf) hs }
theorem JAt.turn {w w' : World} {j d : Nat} {nm : ByteArray} {rs : List (List UInt8)} {sz : Nat} {cut : Bool} {Fp Gp : Nat → Prop} (h : JAt w j d nm rs sz cut Fp) (ht : Turn Gp w w') (hd : ∀ k, Fp k → ¬ Gp k) : JAt w' j d nm rs sz cut Fp :=
  h.kept ht.size (fun k hk => ht.block k (h.lt k hk) (hd k hk))
theorem JAt.below {w w' : World} {j d : Nat} {nm : ByteArray} {rs : List (List UInt8)} {sz : Nat} {cut : Bool} {Fp : Nat → Prop} (h : JAt w j d nm rs sz cut Fp) (hB : Below w.heap.size w w') : JAt w' j d nm rs sz cut Fp :=
  h.turn (Turn.of_below (fun _ => False) hB) (fun _ _ => id)

end Go.Proofs.Ytiafhbpklddlnaa
