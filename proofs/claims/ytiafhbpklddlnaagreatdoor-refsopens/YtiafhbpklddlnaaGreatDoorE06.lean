import Derived.Test.YtiafhbpklddlnaaGreatDoorE04
import Derived.Test.YtiafhbpklddlnaaGreatDoorE05
import Derived.Test.YtiafhbpklddlnaaGreatDoorE02
/- What a list of payloads is in memory: one array in which they stand one behind the other, and a list of slices of it. -/
namespace Go.Proofs.YtiafhbpklddlnaaGreatDoor
open Go.RowKit

/-- payload k; none where there is none -/
def rc (rs : List (List UInt8)) (k : Nat) : List UInt8 := rs.getD k []
/-- where payload k begins -/
def poffs (rs : List (List UInt8)) (k : Nat) : Nat := (rs.take k).flatten.length
theorem offs_zero (rs : List (List UInt8)) : poffs rs 0 = 0 := rfl
theorem rc_get (rs : List (List UInt8)) (k : Nat) (h : k < rs.length) : rs[k]? = some (rc rs k) := by
  simp [rc, List.getD, h]
theorem offs_succ (rs : List (List UInt8)) (k : Nat) (h : k < rs.length) : poffs rs (k + 1) = poffs rs k + (rc rs k).length := by
  unfold poffs rc
  rw [List.take_add_one, List.flatten_append, List.length_append, List.getD]
  rw [List.getElem?_eq_getElem h]
  simp
theorem offs_all (rs : List (List UInt8)) : poffs rs rs.length = rs.flatten.length := by unfold poffs; rw [List.take_length]
theorem offs_le (rs : List (List UInt8)) (k : Nat) (h : k < rs.length) : poffs rs k + (rc rs k).length ≤ rs.flatten.length := by
  rw [← offs_succ rs k h]
  unfold poffs
  conv => rhs; rw [← List.take_append_drop (k + 1) rs, List.flatten_append, List.length_append]
  omega
theorem offs_le' (rs : List (List UInt8)) (k : Nat) : poffs rs k ≤ rs.flatten.length := by
  unfold poffs
  conv => rhs; rw [← List.take_append_drop k rs, List.flatten_append, List.length_append]
  omega
/-- payload k stands in the row from its beginning on -/
theorem flat_sub (rs : List (List UInt8)) (k : Nat) (h : k < rs.length) : (rs.flatten.drop (poffs rs k)).take (rc rs k).length = rc rs k := by
  have e : rs.flatten = (rs.take k).flatten ++ (rc rs k ++ (rs.drop (k + 1)).flatten) := by
    have e0 : rs.drop k = rc rs k :: rs.drop (k + 1) := by rw [List.drop_eq_getElem_cons h]; simp [rc, List.getD, h]
    conv => lhs; rw [← List.take_append_drop k rs, List.flatten_append, e0, List.flatten_cons]
  rw [e]
  unfold poffs
  rw [List.drop_left, List.take_left]
theorem rc_snoc (rs : List (List UInt8)) (l : List UInt8) (k : Nat) (h : k < rs.length) : rc (rs ++ [l]) k = rc rs k := by
  simp [rc, List.getD, List.getElem?_append_left h]
theorem rc_last (rs : List (List UInt8)) (l : List UInt8) : rc (rs ++ [l]) rs.length = l := by simp [rc]
theorem offs_snoc (rs : List (List UInt8)) (l : List UInt8) (k : Nat) (h : k ≤ rs.length) : poffs (rs ++ [l]) k = poffs rs k := by
  unfold poffs; rw [List.take_append_of_le_length h]

/-- slice k of a list leads to payload k, within block g -/
def Elt (g : Nat) (rs : List (List UInt8)) (xs : List Value) (k : Nat) : Prop :=
  ∃ a c, xs[k]? = some (.slice a (rc rs k).length c) ∧ (rc rs k).length ≤ c ∧ (a = none → (rc rs k).length = 0 ∧ c = 0) ∧ (0 < (rc rs k).length → a = some ⟨g, poffs rs k, none⟩)

/-- the array of a list of payloads: nil, or all of block g -/
def arrV (g na : Nat) : Value := if na = 0 then .slice none 0 0 else .slice (some ⟨g, 0, none⟩) na na

/-- at place o of block p stands a list of payloads: its array A lies in block g and has na bytes, full; its list is v, with the cells xs -/
structure PayAt (w : World) (p o : Nat) (rs : List (List UInt8)) (g na : Nat) (full : List UInt8) (A v : Value) (xs : List Value) : Prop where
  ca : w.cell? ⟨p, o, none⟩ = some A
  cu : w.cell? ⟨p, o + 1, none⟩ = some (.int .i64 rs.flatten.length)
  cl : w.cell? ⟨p, o + 2, none⟩ = some v
  fa : w.frozen? ⟨p, o, none⟩ = false
  fu : w.frozen? ⟨p, o + 1, none⟩ = false
  fl : w.frozen? ⟨p, o + 2, none⟩ = false
  arr : w.ownsRow 0 5 1 A na (cellsOf full)
  sh : (A = .slice none 0 0 ∧ na = 0) ∨ A = .slice (some ⟨g, 0, none⟩) na na
  pre : full.take rs.flatten.length = rs.flatten
  fit : rs.flatten.length ≤ na
  row : w.ownsRow 0 33 1 v rs.length xs
  el : ∀ k, k < rs.length → Elt g rs xs k
  gp : A.ownBlock = some g → g ≠ p
  vp : v.ownBlock ≠ some p
  gv : A.ownBlock = some g → v.ownBlock ≠ some g

/-- a list of payloads, whose blocks are among those of Fp -/
def IsPay (w : World) (p o : Nat) (rs : List (List UInt8)) (Fp : Nat → Prop) : Prop :=
  ∃ g na full A v xs, PayAt w p o rs g na full A v xs ∧ (∀ k, A.ownBlock = some k → Fp k) ∧ (∀ k, v.ownBlock = some k → Fp k)

/-- the block of a list of payloads is as it was but for its three cells -/
def Rest (p o : Nat) (w w' : World) : Prop := (∀ i, i ≠ o → i ≠ o + 1 → i ≠ o + 2 → w'.cell? ⟨p, i, none⟩ = w.cell? ⟨p, i, none⟩) ∧ (∀ i, w'.frozen? ⟨p, i, none⟩ = w.frozen? ⟨p, i, none⟩)
theorem Rest.trans {p o : Nat} {a b c : World} (h : Rest p o a b) (k : Rest p o b c) : Rest p o a c :=
  ⟨fun i h1 h2 h3 => (k.1 i h1 h2 h3).trans (h.1 i h1 h2 h3), fun i => (k.2 i).trans (h.2 i)⟩
theorem Rest.of_block {p o : Nat} {a b : World} (h : b.heap[p]? = a.heap[p]?) : Rest p o a b :=
  ⟨fun _ _ _ _ => World.cell?_of_block h, fun _ => World.frozen?_of_block h⟩
theorem Rest.setCell {p o : Nat} (w : World) (i : Nat) (v : Value) (hi : i = o ∨ i = o + 1 ∨ i = o + 2) : Rest p o w (w.setCell ⟨p, i, none⟩ v) :=
  ⟨fun k h1 h2 h3 => World.cell?_setCell_other _ _ _ _ (fun e => by cases e; omega), fun k => World.frozen?_setCell _ _ _ _⟩

theorem ownsRow_move' {w w' : World} {e : TypeId} {B n : Nat} {v : Value} {xs : List Value} (h : w.ownsRow B e 1 v n xs) (hb : ∀ g, v.ownBlock = some g → w'.heap[g]? = w.heap[g]?) : w'.ownsRow B e 1 v n xs := by
  refine ⟨h.1, ?_⟩
  rcases h.2 with h0 | ⟨g, cap, cur, rfl, h1, h2, h3⟩
  · exact .inl h0
  · exact .inr ⟨g, cap, cur, rfl, h1, by rw [hb g rfl]; exact h2, h3⟩

theorem PayAt.kept {w w' : World} {p o g na : Nat} {rs : List (List UInt8)} {full : List UInt8} {A v : Value} {xs : List Value} (h : PayAt w p o rs g na full A v xs)
    (hp : w'.heap[p]? = w.heap[p]?) (hA : ∀ k, A.ownBlock = some k → w'.heap[k]? = w.heap[k]?) (hv : ∀ k, v.ownBlock = some k → w'.heap[k]? = w.heap[k]?) : PayAt w' p o rs g na full A v xs :=
  { h with
    ca := by rw [World.cell?_of_block hp]; exact h.ca
    cu := by rw [World.cell?_of_block hp]; exact h.cu
    cl := by rw [World.cell?_of_block hp]; exact h.cl
    fa := by rw [World.frozen?_of_block hp]; exact h.fa
    fu := by rw [World.frozen?_of_block hp]; exact h.fu
    fl := by rw [World.frozen?_of_block hp]; exact h.fl
    arr := ownsRow_move' h.arr hA
    row := ownsRow_move' h.row hv }

theorem PayAt.alt {w : World} {p o g na : Nat} {rs : List (List UInt8)} {full : List UInt8} {A v : Value} {xs : List Value} (h : PayAt w p o rs g na full A v xs) : full.length = na := by
  have := h.arr.1
  rw [cellsOf_length] at this
  omega

/-- the bytes of payload k -/
theorem PayAt.bytes {w : World} {p o g na : Nat} {rs : List (List UInt8)} {full : List UInt8} {A v : Value} {xs : List Value} (h : PayAt w p o rs g na full A v xs) (k : Nat) (hk : k < rs.length) :
    ∃ a c, xs[k]? = some (.slice a (rc rs k).length c) ∧ (rc rs k).length ≤ c ∧ (a = none → (rc rs k).length = 0 ∧ c = 0) ∧ Bytes w a (rc rs k).length (rc rs k) := by
  obtain ⟨a, c, h1, h2, h3, h4⟩ := h.el k hk
  refine ⟨a, c, h1, h2, h3, rfl, fun h0 => ⟨g, poffs rs k, h4 h0, fun i hi => ?_⟩⟩
  have hle := offs_le rs k hk
  have hfit := h.fit
  have hal := h.alt
  rcases h.sh with ⟨_, rfl⟩ | hA
  · omega
  · have harr := h.arr
    rw [hA] at harr
    have hcell := (ownsRow_toBytes harr).1.2 (by omega)
    obtain ⟨b, off, e, hc⟩ := hcell
    cases e
    have := hc (poffs rs k + i) (by omega)
    rw [Nat.zero_add] at this
    rw [this]
    congr 2
    have e1 : bt (rc rs k) i = bt rs.flatten (poffs rs k + i) := by
      conv => lhs; rw [← flat_sub rs k hk]
      rw [bt_take _ _ _ hi, bt_drop]
    have e2 : bt rs.flatten (poffs rs k + i) = bt full (poffs rs k + i) := by
      conv => lhs; rw [← h.pre]
      rw [bt_take _ _ _ (by omega)]
    rw [e1, e2]

/-- the cell of slice k -/
theorem PayAt.cell {w : World} {p o g na : Nat} {rs : List (List UInt8)} {full : List UInt8} {A v : Value} {xs : List Value} (h : PayAt w p o rs g na full A v xs) :
    (v = .slice none 0 0 ∧ rs = []) ∨ ∃ b cap, v = .slice (some ⟨b, 0, none⟩) rs.length cap ∧ rs.length ≤ cap ∧ cap ≤ maxLen ∧ ∀ k x, xs[k]? = some x → w.cell? ⟨b, k, none⟩ = some x := by
  rcases h.row.2 with ⟨h0, h1⟩ | ⟨b, cap, cur, hv, _, _, h3, h4, _⟩
  · exact .inl ⟨h0, List.eq_nil_of_length_eq_zero h1⟩
  · refine .inr ⟨b, cap, hv, h3, h4, fun k x hx => ?_⟩
    have := h.row.cells (g := b) (by rw [hv]; rfl) k x hx
    rw [Addr.add_lit, Nat.zero_add] at this
    exact this

end Go.Proofs.YtiafhbpklddlnaaGreatDoor

/- What a Journal of the program is in memory, and the walks of its calls that read: Len, Size, Record. -/
namespace Go.Proofs.YtiafhbpklddlnaaGreatDoor
open Go.RowKit

/-- block j of w is a Journal over the disk in block d, of that file: its records, how many bytes they have, whether it is cut -/
structure JAt (w : World) (j d : Nat) (nm : ByteArray) (rs : List (List UInt8)) (sz : Nat) (cut : Bool) (Fp : Nat → Prop) : Prop where
  c0 : w.cell? ⟨j, 0, none⟩ = some (.pointer (some ⟨d, 0, none⟩))
  c1 : w.cell? ⟨j, 1, none⟩ = some (.string nm)
  pay : IsPay w j 2 rs Fp
  c5 : w.cell? ⟨j, 5, none⟩ = some (.int .i64 sz)
  c6 : w.cell? ⟨j, 6, none⟩ = some (.bool cut)
  f5 : w.frozen? ⟨j, 5, none⟩ = false
  f6 : w.frozen? ⟨j, 6, none⟩ = false
  fj : Fp j
  lt : ∀ k, Fp k → k < w.heap.size
  cnt : rs.length * 9 + rs.flatten.length ≤ sz
  small : sz ≤ 4194304

theorem IsPay.kept {w w' : World} {p o : Nat} {rs : List (List UInt8)} {Fp : Nat → Prop} (h : IsPay w p o rs Fp) (hp : Fp p) (hk : ∀ k, Fp k → w'.heap[k]? = w.heap[k]?) : IsPay w' p o rs Fp := by
  obtain ⟨g, na, full, A, v, xs, h, h1, h2⟩ := h
  exact ⟨g, na, full, A, v, xs, h.kept (hk p hp) (fun k h => hk k (h1 k h)) (fun k h => hk k (h2 k h)), h1, h2⟩

theorem JAt.kept {w w' : World} {j d : Nat} {nm : ByteArray} {rs : List (List UInt8)} {sz : Nat} {cut : Bool} {Fp : Nat → Prop} (h : JAt w j d nm rs sz cut Fp) (hs : w.heap.size ≤ w'.heap.size) (hk : ∀ k, Fp k → w'.heap[k]? = w.heap[k]?) : JAt w' j d nm rs sz cut Fp :=
  { h with
    c0 := by rw [World.cell?_of_block (hk j h.fj)]; exact h.c0
    c1 := by rw [World.cell?_of_block (hk j h.fj)]; exact h.c1
    pay := h.pay.kept h.fj hk
    c5 := by rw [World.cell?_of_block (hk j h.fj)]; exact h.c5
    c6 := by rw [World.cell?_of_block (hk j h.fj)]; exact h.c6
    f5 := by rw [World.frozen?_of_block (hk j h.fj)]; exact h.f5
    f6 := by rw [World.frozen?_of_block (hk j h.fj)]; exact h.f6
    lt := fun k hf => Nat.lt_of_lt_of_le (h.lt k hf) hs }
theorem JAt.turn {w w' : World} {j d : Nat} {nm : ByteArray} {rs : List (List UInt8)} {sz : Nat} {cut : Bool} {Fp Gp : Nat → Prop} (h : JAt w j d nm rs sz cut Fp) (ht : Turn Gp w w') (hd : ∀ k, Fp k → ¬ Gp k) : JAt w' j d nm rs sz cut Fp :=
  h.kept ht.size (fun k hk => ht.block k (h.lt k hk) (hd k hk))
theorem JAt.below {w w' : World} {j d : Nat} {nm : ByteArray} {rs : List (List UInt8)} {sz : Nat} {cut : Bool} {Fp : Nat → Prop} (h : JAt w j d nm rs sz cut Fp) (hB : Below w.heap.size w w') : JAt w' j d nm rs sz cut Fp :=
  h.turn (Turn.of_below (fun _ => False) hB) (fun _ _ => id)

end Go.Proofs.YtiafhbpklddlnaaGreatDoor

/- A Journal whose fields are written: what it is then. -/
namespace Go.Proofs.YtiafhbpklddlnaaGreatDoor
open Go.RowKit

theorem IsPay.setCell {w : World} {p o : Nat} {rs : List (List UInt8)} {Fp : Nat → Prop} (h : IsPay w p o rs Fp) (i : Nat) (u : Value) (h0 : i ≠ o) (h1 : i ≠ o + 1) (h2 : i ≠ o + 2) : IsPay (w.setCell ⟨p, i, none⟩ u) p o rs Fp := by
  obtain ⟨g, na, full, A, v, xs, h, hA, hv⟩ := h
  have hAp : ∀ k, A.ownBlock = some k → k ≠ p := fun k e => by
    rcases h.sh with ⟨e1, _⟩ | e1
    · rw [e1] at e; cases e
    · rw [e1] at e
      have : g = k := by simpa [Value.ownBlock] using e
      subst this
      exact h.gp (by rw [e1]; rfl)
  refine ⟨g, na, full, A, v, xs, { h with ca := ?_, cu := ?_, cl := ?_, fa := ?_, fu := ?_, fl := ?_, arr := ?_, row := ?_ }, hA, hv⟩
  · rw [World.cell?_setCell_other _ _ _ _ (fun e => by cases e; omega)]; exact h.ca
  · rw [World.cell?_setCell_other _ _ _ _ (fun e => by cases e; omega)]; exact h.cu
  · rw [World.cell?_setCell_other _ _ _ _ (fun e => by cases e; omega)]; exact h.cl
  · rw [World.frozen?_setCell]; exact h.fa
  · rw [World.frozen?_setCell]; exact h.fu
  · rw [World.frozen?_setCell]; exact h.fl
  · exact ownsRow_move' h.arr (fun k hk => Below.heap_setCell _ _ _ _ (hAp k hk))
  · exact ownsRow_move' h.row (fun k hk => Below.heap_setCell _ _ _ _ (fun e => h.vp (by rw [hk]; exact congrArg some e)))

theorem JAt.wide {w : World} {j d : Nat} {nm : ByteArray} {rs : List (List UInt8)} {sz : Nat} {cut : Bool} {F G : Nat → Prop} (h : JAt w j d nm rs sz cut F) (hs : ∀ k, F k → G k) (hlt : ∀ k, G k → k < w.heap.size) : JAt w j d nm rs sz cut G :=
  { h with
    pay := by
      obtain ⟨g, na, full, A, v, xs, hp, h1, h2⟩ := h.pay
      exact ⟨g, na, full, A, v, xs, hp, fun k hk => hs k (h1 k hk), fun k hk => hs k (h2 k hk)⟩
    fj := hs _ h.fj
    lt := hlt }

/-- a payload was put behind the others, and the size is written -/
theorem JAt.added {w w' : World} {j d : Nat} {nm : ByteArray} {rs : List (List UInt8)} {sz : Nat} {cut : Bool} {F : Nat → Prop} {q : List UInt8} (h : JAt w j d nm rs sz cut F) (hp : IsPay w' j 2 (rs ++ [q]) (grow F w w')) (hT : Turn F w w') (hR : Rest j 2 w w')
    (k : Nat) (hk : 9 + q.length ≤ k) (hs : sz + k ≤ 4194304) (z : Int) (hz : z = ((sz + k : Nat) : Int)) : JAt (w'.setCell ⟨j, 5, none⟩ (.int .i64 z)) j d nm (rs ++ [q]) (sz + k) cut (grow F w w') ∧ Turn F w (w'.setCell ⟨j, 5, none⟩ (.int .i64 z)) := by
  subst hz
  refine ⟨{ c0 := ?_, c1 := ?_, pay := hp.setCell 5 _ (by decide) (by decide) (by decide), c5 := ?_, c6 := ?_, f5 := ?_, f6 := ?_, fj := .inl h.fj, lt := ?_, cnt := ?_, small := hs }, hT.trans (turn_setCell w' j 5 _) (fun i _ hi => by subst hi; exact h.fj)⟩
  · rw [World.cell?_setCell_other _ _ _ _ (by simp), hR.1 0 (by decide) (by decide) (by decide)]; exact h.c0
  · rw [World.cell?_setCell_other _ _ _ _ (by simp), hR.1 1 (by decide) (by decide) (by decide)]; exact h.c1
  · exact World.cell?_setCell_same _ _ _ (by rw [hR.1 5 (by decide) (by decide) (by decide)]; exact h.c5)
  · rw [World.cell?_setCell_other _ _ _ _ (by simp), hR.1 6 (by decide) (by decide) (by decide)]; exact h.c6
  · rw [World.frozen?_setCell, hR.2]; exact h.f5
  · rw [World.frozen?_setCell, hR.2]; exact h.f6
  · intro i hi
    have := hT.size
    rcases hi with hi | hi
    · have := h.lt i hi
      simp [World.setCell]; omega
    · simp [World.setCell]; omega
  · have := h.cnt
    rw [List.length_append, List.length_singleton, List.flatten_append, List.length_append, show ([q] : List (List UInt8)).flatten = q by simp]
    omega

/-- the mark of a cut is written -/
theorem JAt.mark {w : World} {j d : Nat} {nm : ByteArray} {rs : List (List UInt8)} {sz : Nat} {cut : Bool} {F : Nat → Prop} (h : JAt w j d nm rs sz cut F) (b : Bool) : JAt (w.setCell ⟨j, 6, none⟩ (.bool b)) j d nm rs sz b F ∧ Turn F w (w.setCell ⟨j, 6, none⟩ (.bool b)) := by
  refine ⟨{ c0 := ?_, c1 := ?_, pay := h.pay.setCell 6 _ (by decide) (by decide) (by decide), c5 := ?_, c6 := ?_, f5 := ?_, f6 := ?_, fj := h.fj, lt := ?_, cnt := h.cnt, small := h.small }, (turn_setCell w j 6 _).wide (fun k hk => by subst hk; exact h.fj)⟩
  · rw [World.cell?_setCell_other _ _ _ _ (by simp)]; exact h.c0
  · rw [World.cell?_setCell_other _ _ _ _ (by simp)]; exact h.c1
  · rw [World.cell?_setCell_other _ _ _ _ (by simp)]; exact h.c5
  · exact World.cell?_setCell_same _ _ _ h.c6
  · rw [World.frozen?_setCell]; exact h.f5
  · rw [World.frozen?_setCell]; exact h.f6
  · intro i hi
    have := h.lt i hi
    simpa [World.setCell] using this

end Go.Proofs.YtiafhbpklddlnaaGreatDoor

/- Laws for the walk: one byte appended to a row of bytes of the call's own, with room and without; bytes as a string. -/
namespace Go.Proofs.YtiafhbpklddlnaaGreatDoor
open Go.RowKit

/-- append(out, c) where out has room: the byte was laid into a block of its own just before -/
theorem wpList_push_fits {wr : World} {ops : Array Oper} {rest : List Oper} {o : Oper} {a : Act} {Q : Exit → Act → World → Prop} (z : Int)
    (hgd : o.guard = none) (s x : Operand) (hop : o.op = Op.call { callee := Callee.builtin Builtin.append, args := #[s, x], argTypes := #[33, 33] })
    (base g m cap : Nat) (xs : List Value) (hs : a.eval s = .slice (some ⟨g, 0, none⟩) m cap) (hx : a.eval x = .slice (some ⟨wr.heap.size, 0, none⟩) 1 1)
    (hown : wr.ownsRow base 5 1 (.slice (some ⟨g, 0, none⟩) m cap) m xs) (hfit : m + 1 ≤ cap)
    (hK : ∀ w', w'.ownsRow base 5 1 (.slice (some ⟨g, 0, none⟩) (m + 1) cap) (m + 1) (xs ++ [.int .u8 z]) → wr.grownBy w' (some g) → wpList Tryz.prog ops Q rest (a.put o.dst (.slice (some ⟨g, 0, none⟩) (m + 1) cap)) w') :
    wpList Tryz.prog ops Q (o :: rest) a (wr.alloc (.cells #[.int .u8 z] 5)) := by
  obtain ⟨i0, hi, hz0, hz1, hz2⟩ := info_parts Tryz.info5
  refine wpList_append_fits _ hgd s x 33 hop base 5 i0 1 Tryz.underlying33 hi hz1 g m cap xs hs (hown.alloc _) ⟨wr.heap.size, 0, none⟩ 1 1 [.int .u8 z] hx rfl ?_ ?_ hfit ?_
  · intro j u hj
    match j, hj with
    | 0, hj => simp at hj; subst hj; simp [Addr.add]
  · intro u hu; simp at hu; subst hu; rfl
  · intro w' h1 h2
    exact hK w' h1 (grownBy_trans (World.grownBy_alloc _ _ _) h2)

/-- append(out, c) where nothing is known of the room: the new value, and where it lies, are the tape's -/
theorem wpList_push_own {wr : World} {ops : Array Oper} {rest : List Oper} {o : Oper} {a : Act} {Q : Exit → Act → World → Prop} (z : Int)
    (hgd : o.guard = none) (s x : Operand) (hop : o.op = Op.call { callee := Callee.builtin Builtin.append, args := #[s, x], argTypes := #[33, 33] })
    (base m : Nat) (v : Value) (xs : List Value) (hs : a.eval s = v) (hx : a.eval x = .slice (some ⟨wr.heap.size, 0, none⟩) 1 1)
    (hown : wr.ownsRow base 5 1 v m xs) (hm : m + 1 ≤ 140737488355328) (hb : base ≤ wr.heap.size)
    (hK : ∀ v' w', w'.ownsRow base 5 1 v' (m + 1) (xs ++ [.int .u8 z]) → Below base wr w' → wpList Tryz.prog ops Q rest (a.put o.dst v') w') :
    wpList Tryz.prog ops Q (o :: rest) a (wr.alloc (.cells #[.int .u8 z] 5)) := by
  obtain ⟨i0, hi, hz0, hz1, hz2⟩ := info_parts Tryz.info5
  refine wpList_append_own _ hgd s x 33 hop base 5 i0 (.int .u8 0) 1 1 Tryz.underlying33 hi hz0 hz1 hz2 rfl (by omega) v m xs hs (hown.alloc _) ⟨wr.heap.size, 0, none⟩ 1 1 [.int .u8 z] hx rfl ?_ ?_ (by unfold maxLen; omega) (by omega) (by simp; omega) ?_
  · intro j u hj
    match j, hj with
    | 0, hj => simp at hj; subst hj; simp [Addr.add]
  · intro u hu; simp at hu; subst hu; rfl
  · intro v' w' h1 h2 _
    exact hK v' w' h1 (((Below.refl base wr).alloc hb _).grown h2 (by simp; omega) (fun k hk => (hown.lt k hk).1))

/-- what a value that owns bytes is -/
theorem ownsRow_open {w : World} {B n : Nat} {v : Value} {l : List UInt8} (h : w.ownsRow B 5 1 v n (cellsOf l)) : ∃ ad cap, v = .slice ad n cap ∧ Bytes w ad n l ∧ n = l.length ∧ (∀ x, ad = some x → B ≤ x.block ∧ x.block < w.heap.size) := by
  have hll : l.length = n := by have := h.1; rw [cellsOf_length] at this; omega
  rcases h.2 with ⟨rfl, rfl⟩ | ⟨g, cap, cur, rfl, _⟩
  · exact ⟨none, 0, rfl, ⟨hll, fun h0 => by omega⟩, hll.symm, by simp⟩
  · refine ⟨some ⟨g, 0, none⟩, cap, rfl, (ownsRow_bytes h).1, hll.symm, fun x hx => ?_⟩
    obtain rfl := Option.some.inj hx
    exact (ownsRow_bytes h).2

end Go.Proofs.YtiafhbpklddlnaaGreatDoor
