import Derived.Test.YtdjodigimhgklaaGreatDoorP16
import Derived.Test.YtdjodigimhgklaaGreatDoorP02
import Derived.Shelf.Small.Bits
import Derived.Shelf.Strconv.Itoa0
import Derived.Shelf.Strconv.Itoa1
import Derived.Shelf.LaysM
import Derived.Shelf.Strconv.Itoa2
import Derived.Shelf.Strconv.Itoa3
import Derived.Ground.SlgnProg
import Derived.Shelf.SlicesE.Index
import Derived.Shelf.SlicesE.Clone
import Derived.Ground.SlsfProg
import Derived.Shelf.SlSortCmp.Insertion
import Derived.Ground.SlgmProg
import Derived.Shelf.SortM.Plain
import Derived.Shelf.SortM.SortNone
import Derived.Shelf.SlSortCmp.SiftDown1
import Derived.Shelf.SlSortCmp.HeapSort1
import Derived.Shelf.SlSortCmp.Insertion1
import Derived.Shelf.SlSortCmp.Median1
import Derived.Shelf.SlSortCmp.Pivot1
import Derived.Shelf.SlSortCmp.ReverseRange1
import Derived.Shelf.SlSortCmp.PartialInsertion1
import Derived.Shelf.SlSortCmp.PartitionEqual1
import Derived.Shelf.SlSortCmp.Partition1
import Derived.Shelf.SlSortCmp.Pdq1
import Derived.Shelf.SlSortCmp.Whole1
import Derived.Shelf.SlSortCmp.NoneTotal
import Derived.Shelf.Bytes.Small
import Derived.Test.YtdjodigimhgklaaGreatDoorProg
/- What a Journal of the program is in memory, and the walks of its calls that read: Len, Size, Record. -/
namespace Go.Proofs.YtdjodigimhgklaaGreatDoor
open Go.RowKit

/-- block j of w is a Journal over the disk in block d, of that file: its records, how many bytes they have, whether it is cut -/
structure JAt (w : World) (j d : Nat) (nm : ByteArray) (rs : List (List UInt8)) (sz : Nat) (cut : Bool) (Fp : Nat → Prop) : Prop where
  c0 : w.cell? ⟨j, 0, none⟩ = some (.pointer (some ⟨d, 0, none⟩))
  c1 : w.cell? ⟨j, 1, none⟩ = some (.string nm)
  pay : IsPay w j 2 rs Fp
  c5 : w.cell? ⟨j, 5, none⟩ = some (.int .i64 sz)
  c6 : w.cell? ⟨j, 6, none⟩ = some (.bool cut)
  f5 : w.frozen? ⟨j, 5, none⟩ = false
  f6 : w.frozen? ⟨j, 6, none⟩ = false
  fj : Fp j
  lt : ∀ k, Fp k → k < w.heap.size
  cnt : rs.length * 9 + rs.flatten.length ≤ sz
  small : sz ≤ 4194304

theorem IsPay.kept {w w' : World} {p o : Nat} {rs : List (List UInt8)} {Fp : Nat → Prop} (h : IsPay w p o rs Fp) (hp : Fp p) (hk : ∀ k, Fp k → w'.heap[k]? = w.heap[k]?) : IsPay w' p o rs Fp := by
  obtain ⟨g, na, full, A, v, xs, h, h1, h2⟩ := h
  exact ⟨g, na, full, A, v, xs, h.kept (hk p hp) (fun k h => hk k (h1 k h)) (fun k h => hk k (h2 k h)), h1, h2⟩

theorem JAt.kept {w w' : World} {j d : Nat} {nm : ByteArray} {rs : List (List UInt8)} {sz : Nat} {cut : Bool} {Fp : Nat → Prop} (h : JAt w j d nm rs sz cut Fp) (hs : w.heap.size ≤ w'.heap.size) (hk : ∀ k, Fp k → w'.heap[k]? = w.heap[k]?) : JAt w' j d nm rs sz cut Fp :=
  { h with
    c0 := by rw [World.cell?_of_block (hk j h.fj)]; exact h.c0
    c1 := by rw [World.cell?_of_block (hk j h.fj)]; exact h.c1
    pay := h.pay.kept h.fj hk
    c5 := by rw [World.cell?_of_block (hk j h.fj)]; exact h.c5
    c6 := by rw [World.cell?_of_block (hk j h.fj)]; exact h.c6
    f5 := by rw [World.frozen?_of_block (hk j h.fj)]; exact h.f5
    f6 := by rw [World.frozen?_of_block (hk j h.fj)]; exact h.f6
    lt := fun k hf => Nat.lt_of_lt_of_le (h.lt k hf) hs }
theorem JAt.turn {w w' : World} {j d : Nat} {nm : ByteArray} {rs : List (List UInt8)} {sz : Nat} {cut : Bool} {Fp Gp : Nat → Prop} (h : JAt w j d nm rs sz cut Fp) (ht : Turn Gp w w') (hd : ∀ k, Fp k → ¬ Gp k) : JAt w' j d nm rs sz cut Fp :=
  h.kept ht.size (fun k hk => ht.block k (h.lt k hk) (hd k hk))
theorem JAt.below {w w' : World} {j d : Nat} {nm : ByteArray} {rs : List (List UInt8)} {sz : Nat} {cut : Bool} {Fp : Nat → Prop} (h : JAt w j d nm rs sz cut Fp) (hB : Below w.heap.size w w') : JAt w' j d nm rs sz cut Fp :=
  h.turn (Turn.of_below (fun _ => False) hB) (fun _ _ => id)

end Go.Proofs.YtdjodigimhgklaaGreatDoor

/- copy into the array of a list of payloads, as a step of a walk. -/
namespace Go.Proofs.YtdjodigimhgklaaGreatDoor
open Go.RowKit

theorem cellsOf_splice (L : List UInt8) (off : Nat) (l : List UInt8) : cellsOf (splice L off l) = splice (cellsOf L) off (cellsOf l) := by
  simp [splice, cellsOf]
theorem splice_head (L : List UInt8) (off : Nat) (l : List UInt8) (h : off ≤ L.length) : (splice L off l).take (off + l.length) = L.take off ++ l := by
  unfold splice
  rw [← List.append_assoc, List.take_append_of_le_length (by simp; omega), List.take_of_length_le (by simp; omega)]
theorem splice_nil (L : List UInt8) (off : Nat) : splice L off [] = L := by simp [splice]

theorem grownBy_refl (w : World) (row : Option Nat) : w.grownBy w row := ⟨rfl, rfl, rfl, Nat.le_refl _, fun _ _ _ => rfl⟩
theorem grownBy_setRow (w : World) (g : Nat) (cs : Array Value) : w.grownBy (w.setRow g cs) (some g) :=
  ⟨rfl, rfl, rfl, by simp [World.setRow], fun k _ hk => setRow_other w g k cs (fun e => hk (by rw [e]))⟩

/-- copy of bytes into a row of bytes that is owned, from place off on -/
theorem run_copy_bytes (w : World) (ty : TypeId) (A : Value) (g na off : Nat) (full : List UInt8) (hown : w.ownsRow 0 5 1 A na (cellsOf full)) (hA : A = .slice none 0 0 ∨ A = .slice (some ⟨g, 0, none⟩) na na)
    (dp sp : Option Addr) (dl dc m c : Nat) (l : List UInt8) (hb : Bytes w sp m l) (hm : m ≤ dl) (hfit : off + m ≤ na) (hpos : 0 < m → dp = some ⟨g, off, none⟩) :
    ∃ w', (Builtin.copy_ #[33, 33] ty #[.slice dp dl dc, .slice sp m c]).run Tryz.prog w = .ok (goInt m) w' ∧ w'.ownsRow 0 5 1 A na (cellsOf (splice full off l)) ∧ w.grownBy w' A.ownBlock := by
  obtain ⟨i0, hi, hz0, hz1, hz2⟩ := info_parts Tryz.info5
  have hu := Tryz.underlying33
  have hsz : (Tryz.prog.info? 5).map (·.size) = some 1 := by rw [hi]; simp [hz1]
  have hll : (cellsOf l).length = m := by rw [cellsOf_length, hb.1]
  have hmin : Nat.min m dl = m := Nat.min_eq_left hm
  by_cases h0 : m = 0
  · subst h0
    have : l = [] := List.eq_nil_of_length_eq_zero hb.1
    subst this
    rw [splice_nil]
    exact ⟨w, run_copy_none (P := Tryz.prog) w 33 33 ty 5 dp sp dl dc 0 c hu hsz hmin, hown, grownBy_refl _ _⟩
  · obtain rfl := hpos (by omega)
    obtain ⟨b, so, rfl, hc⟩ := hb.2 (by omega)
    rcases hown.2 with ⟨_, hn0⟩ | ⟨g', cap, cur, hAe, _, hg, hcap, hmx, hcs, hxs⟩
    · omega
    · rcases hA with hA | hA
      · rw [hA] at hAe; cases hAe
      · rw [hA] at hAe
        cases hAe
        have hsrc : ∀ j v, (cellsOf l)[j]? = some v → w.cell? ((⟨b, so, none⟩ : Addr).add j) = some v := by
          intro j v hj
          have hjl : j < m := by have := (List.getElem?_eq_some_iff.1 hj).1; omega
          rw [cellsOf_get l j (by rw [hb.1]; exact hjl)] at hj
          rw [Addr.add_lit, hc j hjl]; exact hj
        have hcur : cur.toList = cellsOf full := by
          rw [← hxs, List.take_of_length_le (by simp; omega)]
        have hrun := run_copy_row (P := Tryz.prog) w 33 33 ty 5 g off dl dc ⟨b, so, none⟩ m c cur 5 (cellsOf l) hu hsz hg (by rw [hll]; exact hmin.symm) hsrc (by rw [hll, hcs]; omega) (cellsOf_one l)
        have hfl : full.length = na := by have := hown.1; rw [cellsOf_length] at this; omega
        have hsp : cur.toList.take off ++ (cellsOf l ++ cur.toList.drop (off + (cellsOf l).length)) = cellsOf (splice full off l) := by
          rw [cellsOf_splice, hcur]; rfl
        have hlen : (cellsOf (splice full off l)).length = na := by
          rw [cellsOf_splice, length_splice _ _ _ (by rw [hll, cellsOf_length, hfl]; exact hfit), cellsOf_length, hfl]
        rw [List.append_assoc, hsp] at hrun
        refine ⟨_, by rw [hrun, hll], ⟨by rw [hlen]; omega, .inr ⟨g, na, _, hA, Nat.zero_le _, setRow_heap w g _ _ _ _ hg, Nat.le_refl _, hmx, by simp [hlen], ?_⟩⟩, ?_⟩
        · simp
          exact List.take_of_length_le (by omega)
        · rw [hA]; exact grownBy_setRow w g _

theorem step_copy_bytes (w : World) {ops : Array Oper} {o : Oper} {a : Act} {K : Act → World → Prop} {Q : Exit → Act → World → Prop} {E : Prop} (hgd : o.guard = none) (d s : Operand)
    (ho : o.op = .call { callee := .builtin .copy, args := #[d, s], argTypes := #[33, 33] })
    (A : Value) (g na off : Nat) (full : List UInt8) (hown : w.ownsRow 0 5 1 A na (cellsOf full)) (hA : A = .slice none 0 0 ∨ A = .slice (some ⟨g, 0, none⟩) na na)
    (dp sp : Option Addr) (dl dc m c : Nat) (l : List UInt8) (hd : a.eval d = .slice dp dl dc) (hs : a.eval s = .slice sp m c) (hb : Bytes w sp m l) (hm : m ≤ dl) (hfit : off + m ≤ na) (hpos : 0 < m → dp = some ⟨g, off, none⟩)
    (h : ∀ w', w'.ownsRow 0 5 1 A na (cellsOf (splice full off l)) → w.grownBy w' A.ownBlock → K (a.put o.dst (goInt m)) w') :
    if Region.wanted o (yielded ops a.tmps) = true then Oper.wp Tryz.prog o a w K Q else E := by
  have hw : Region.wanted o (yielded ops a.tmps) = true := by simp [Region.wanted, hgd]
  rw [if_pos hw]
  obtain ⟨w', hr, h1, h2⟩ := run_copy_bytes w o.type A g na off full hown hA dp sp dl dc m c l hb hm hfit hpos
  unfold Oper.wp
  simp [execOp, ho, resolve, invoke, builtin, hd, hs, hr, Result.andThen]
  exact h w' h1 h2

theorem wpList_copy_bytes (w : World) {ops : Array Oper} {rest : List Oper} {o : Oper} {a : Act} {Q : Exit → Act → World → Prop} (hgd : o.guard = none) (d s : Operand)
    (ho : o.op = .call { callee := .builtin .copy, args := #[d, s], argTypes := #[33, 33] })
    (A : Value) (g na off : Nat) (full : List UInt8) (hown : w.ownsRow 0 5 1 A na (cellsOf full)) (hA : A = .slice none 0 0 ∨ A = .slice (some ⟨g, 0, none⟩) na na)
    (dp sp : Option Addr) (dl dc m c : Nat) (l : List UInt8) (hd : a.eval d = .slice dp dl dc) (hs : a.eval s = .slice sp m c) (hb : Bytes w sp m l) (hm : m ≤ dl) (hfit : off + m ≤ na) (hpos : 0 < m → dp = some ⟨g, off, none⟩)
    (h : ∀ w', w'.ownsRow 0 5 1 A na (cellsOf (splice full off l)) → w.grownBy w' A.ownBlock → wpList Tryz.prog ops Q rest (a.put o.dst (goInt m)) w') : wpList Tryz.prog ops Q (o :: rest) a w := by
  refine wpList_plain hgd fun K hK => ?_
  obtain ⟨w', hr, h1, h2⟩ := run_copy_bytes w o.type A g na off full hown hA dp sp dl dc m c l hb hm hfit hpos
  unfold Oper.wp
  simp [execOp, ho, resolve, invoke, builtin, hd, hs, hr, Result.andThen]
  exact hK _ _ (h w' h1 h2)

end Go.Proofs.YtdjodigimhgklaaGreatDoor

/- A Journal whose fields are written: what it is then. -/
namespace Go.Proofs.YtdjodigimhgklaaGreatDoor
open Go.RowKit

theorem IsPay.setCell {w : World} {p o : Nat} {rs : List (List UInt8)} {Fp : Nat → Prop} (h : IsPay w p o rs Fp) (i : Nat) (u : Value) (h0 : i ≠ o) (h1 : i ≠ o + 1) (h2 : i ≠ o + 2) : IsPay (w.setCell ⟨p, i, none⟩ u) p o rs Fp := by
  obtain ⟨g, na, full, A, v, xs, h, hA, hv⟩ := h
  have hAp : ∀ k, A.ownBlock = some k → k ≠ p := fun k e => by
    rcases h.sh with ⟨e1, _⟩ | e1
    · rw [e1] at e; cases e
    · rw [e1] at e
      have : g = k := by simpa [Value.ownBlock] using e
      subst this
      exact h.gp (by rw [e1]; rfl)
  refine ⟨g, na, full, A, v, xs, { h with ca := ?_, cu := ?_, cl := ?_, fa := ?_, fu := ?_, fl := ?_, arr := ?_, row := ?_ }, hA, hv⟩
  · rw [World.cell?_setCell_other _ _ _ _ (fun e => by cases e; omega)]; exact h.ca
  · rw [World.cell?_setCell_other _ _ _ _ (fun e => by cases e; omega)]; exact h.cu
  · rw [World.cell?_setCell_other _ _ _ _ (fun e => by cases e; omega)]; exact h.cl
  · rw [World.frozen?_setCell]; exact h.fa
  · rw [World.frozen?_setCell]; exact h.fu
  · rw [World.frozen?_setCell]; exact h.fl
  · exact ownsRow_move' h.arr (fun k hk => Below.heap_setCell _ _ _ _ (hAp k hk))
  · exact ownsRow_move' h.row (fun k hk => Below.heap_setCell _ _ _ _ (fun e => h.vp (by rw [hk]; exact congrArg some e)))

theorem JAt.wide {w : World} {j d : Nat} {nm : ByteArray} {rs : List (List UInt8)} {sz : Nat} {cut : Bool} {F G : Nat → Prop} (h : JAt w j d nm rs sz cut F) (hs : ∀ k, F k → G k) (hlt : ∀ k, G k → k < w.heap.size) : JAt w j d nm rs sz cut G :=
  { h with
    pay := by
      obtain ⟨g, na, full, A, v, xs, hp, h1, h2⟩ := h.pay
      exact ⟨g, na, full, A, v, xs, hp, fun k hk => hs k (h1 k hk), fun k hk => hs k (h2 k hk)⟩
    fj := hs _ h.fj
    lt := hlt }

/-- a payload was put behind the others, and the size is written -/
theorem JAt.added {w w' : World} {j d : Nat} {nm : ByteArray} {rs : List (List UInt8)} {sz : Nat} {cut : Bool} {F : Nat → Prop} {q : List UInt8} (h : JAt w j d nm rs sz cut F) (hp : IsPay w' j 2 (rs ++ [q]) (grow F w w')) (hT : Turn F w w') (hR : Rest j 2 w w')
    (k : Nat) (hk : 9 + q.length ≤ k) (hs : sz + k ≤ 4194304) (z : Int) (hz : z = ((sz + k : Nat) : Int)) : JAt (w'.setCell ⟨j, 5, none⟩ (.int .i64 z)) j d nm (rs ++ [q]) (sz + k) cut (grow F w w') ∧ Turn F w (w'.setCell ⟨j, 5, none⟩ (.int .i64 z)) := by
  subst hz
  refine ⟨{ c0 := ?_, c1 := ?_, pay := hp.setCell 5 _ (by decide) (by decide) (by decide), c5 := ?_, c6 := ?_, f5 := ?_, f6 := ?_, fj := .inl h.fj, lt := ?_, cnt := ?_, small := hs }, hT.trans (turn_setCell w' j 5 _) (fun i _ hi => by subst hi; exact h.fj)⟩
  · rw [World.cell?_setCell_other _ _ _ _ (by simp), hR.1 0 (by decide) (by decide) (by decide)]; exact h.c0
  · rw [World.cell?_setCell_other _ _ _ _ (by simp), hR.1 1 (by decide) (by decide) (by decide)]; exact h.c1
  · exact World.cell?_setCell_same _ _ _ (by rw [hR.1 5 (by decide) (by decide) (by decide)]; exact h.c5)
  · rw [World.cell?_setCell_other _ _ _ _ (by simp), hR.1 6 (by decide) (by decide) (by decide)]; exact h.c6
  · rw [World.frozen?_setCell, hR.2]; exact h.f5
  · rw [World.frozen?_setCell, hR.2]; exact h.f6
  · intro i hi
    have := hT.size
    rcases hi with hi | hi
    · have := h.lt i hi
      simp [World.setCell]; omega
    · simp [World.setCell]; omega
  · have := h.cnt
    rw [List.length_append, List.length_singleton, List.flatten_append, List.length_append, show ([q] : List (List UInt8)).flatten = q by simp]
    omega

/-- the mark of a cut is written -/
theorem JAt.mark {w : World} {j d : Nat} {nm : ByteArray} {rs : List (List UInt8)} {sz : Nat} {cut : Bool} {F : Nat → Prop} (h : JAt w j d nm rs sz cut F) (b : Bool) : JAt (w.setCell ⟨j, 6, none⟩ (.bool b)) j d nm rs sz b F ∧ Turn F w (w.setCell ⟨j, 6, none⟩ (.bool b)) := by
  refine ⟨{ c0 := ?_, c1 := ?_, pay := h.pay.setCell 6 _ (by decide) (by decide) (by decide), c5 := ?_, c6 := ?_, f5 := ?_, f6 := ?_, fj := h.fj, lt := ?_, cnt := h.cnt, small := h.small }, (turn_setCell w j 6 _).wide (fun k hk => by subst hk; exact h.fj)⟩
  · rw [World.cell?_setCell_other _ _ _ _ (by simp)]; exact h.c0
  · rw [World.cell?_setCell_other _ _ _ _ (by simp)]; exact h.c1
  · rw [World.cell?_setCell_other _ _ _ _ (by simp)]; exact h.c5
  · exact World.cell?_setCell_same _ _ _ h.c6
  · rw [World.frozen?_setCell]; exact h.f5
  · rw [World.frozen?_setCell]; exact h.f6
  · intro i hi
    have := h.lt i hi
    simpa [World.setCell] using this

end Go.Proofs.YtdjodigimhgklaaGreatDoor

/- The kit's contracts on functions of Go's library, laid at this translation by the kit's own command, in plain words. -/
namespace Go.Proofs.YtdjodigimhgklaaGreatDoor
open Go.Shelf
def Tryz.lays171_ren : Go.Shelf.Ren := ⟨fun | 171 => 77 | 243 => 121 | 246 => 157 | 283 => 182 | 284 => 183 | 285 => 184 | 286 => 185 | 129 => 146 | 317 => 194 | 318 => 195 | 319 => 196 | 320 => 197 | 337 => 200 | 338 => 201 | n => n, fun | 3 => 3 | 9 => 9 | 2 => 2 | 4 => 4 | 171 => 230 | 0 => 0 | 53 => 22 | 37 => 33 | 5 => 5 | 173 => 232 | 212 => 243 | 51 => 198 | 20 => 20 | 213 => 244 | 46 => 77 | 232 => 247 | 233 => 248 | n => n, fun | 17 => 0 | 18 => 1 | 19 => 2 | n => n⟩
theorem Tryz.lays171 : Go.Proofs.Lays.n171 Tryz.prog Tryz.lays171_ren := {
  mixed := by kernel_rfl
  f129 := Tryz.func146.trans (congrArg some (by kernel_rfl))
  f171 := Tryz.func77.trans (congrArg some (by kernel_rfl))
  f243 := Tryz.func121.trans (congrArg some (by kernel_rfl))
  f246 := Tryz.func157.trans (congrArg some (by kernel_rfl))
  f283 := Tryz.func182.trans (congrArg some (by kernel_rfl))
  f284 := Tryz.func183.trans (congrArg some (by kernel_rfl))
  f285 := Tryz.func184.trans (congrArg some (by kernel_rfl))
  f286 := Tryz.func185.trans (congrArg some (by kernel_rfl))
  f317 := Tryz.func194.trans (congrArg some (by kernel_rfl))
  f318 := Tryz.func195.trans (congrArg some (by kernel_rfl))
  f319 := Tryz.func196.trans (congrArg some (by kernel_rfl))
  f320 := Tryz.func197.trans (congrArg some (by kernel_rfl))
  f337 := Tryz.func200.trans (congrArg some (by kernel_rfl))
  f338 := Tryz.func201.trans (congrArg some (by kernel_rfl))
  t0 := Tryz.underlying0
  a0 := Tryz.isAgg0
  z0 := Tryz.sizeOf0
  v0 := Tryz.zeroValue0
  t2 := Tryz.underlying2
  a2 := Tryz.isAgg2
  z2 := Tryz.sizeOf2
  v2 := Tryz.zeroValue2
  t3 := Tryz.underlying3
  a3 := Tryz.isAgg3
  z3 := Tryz.sizeOf3
  v3 := Tryz.zeroValue3
  t4 := Tryz.underlying4
  a4 := Tryz.isAgg4
  z4 := Tryz.sizeOf4
  v4 := Tryz.zeroValue4
  t5 := Tryz.underlying5
  a5 := Tryz.isAgg5
  z5 := Tryz.sizeOf5
  v5 := Tryz.zeroValue5
  t9 := Tryz.underlying9
  a9 := Tryz.isAgg9
  z9 := Tryz.sizeOf9
  v9 := Tryz.zeroValue9
  t20 := Tryz.underlying20
  a20 := Tryz.isAgg20
  z20 := Tryz.sizeOf20
  v20 := Tryz.zeroValue20
  t37 := Tryz.underlying33
  a37 := Tryz.isAgg33
  z37 := Tryz.sizeOf33
  v37 := Tryz.zeroValue33
  t46 := Tryz.underlying77
  a46 := Tryz.isAgg77
  z46 := Tryz.sizeOf77
  v46 := Tryz.zeroValue77
  t51 := Tryz.underlying198
  a51 := Tryz.isAgg198
  z51 := Tryz.sizeOf198
  v51 := Tryz.zeroValue198
  t53 := Tryz.underlying22
  a53 := Tryz.isAgg22
  z53 := Tryz.sizeOf22
  v53 := Tryz.zeroValue22
  t171 := Tryz.underlying230
  a171 := Tryz.isAgg230
  z171 := Tryz.sizeOf230
  v171 := Tryz.zeroValue230
  t173 := Tryz.underlying232
  a173 := Tryz.isAgg232
  z173 := Tryz.sizeOf232
  v173 := Tryz.zeroValue232
  t212 := Tryz.underlying243
  a212 := Tryz.isAgg243
  z212 := Tryz.sizeOf243
  v212 := Tryz.zeroValue243
  t213 := Tryz.underlying244
  a213 := Tryz.isAgg244
  z213 := Tryz.sizeOf244
  t232 := Tryz.underlying247
  a232 := Tryz.isAgg247
  z232 := Tryz.sizeOf247
  v232 := Tryz.zeroValue247
  t233 := Tryz.underlying248
  a233 := Tryz.isAgg248
  z233 := Tryz.sizeOf248
  v233 := Tryz.zeroValue248
  g17 := by kernel_rfl
  g18 := by kernel_rfl
  g19 := by kernel_rfl }
open Go.RowKit Go.Sort Go.Lib in
theorem Tryz.strconv_Itoa_small (i : Nat) (hi : i < 100) (w : World) :
    Calls Tryz.prog 77 #[.int .i64 i] w fun e w' => e = .returned (.string ⟨(Lib.decDigits i).toArray⟩) ∧ w' = w := Any.strconv_Itoa_small Tryz.lays171 i hi w
def Tryz.laysSlE31_f86_ren : Go.Shelf.Ren := ⟨fun | 31 => 86 | 29 => 129 | n => n, fun | 22 => 73 | 23 => 3 | 4 => 4 | 3 => 3 | 0 => 0 | n => n, fun | n => n⟩
theorem Tryz.laysSlE31_f86 : Go.Proofs.SlLaysE.n31 Tryz.prog Tryz.laysSlE31_f86_ren := {
  mixed := by kernel_rfl
  f29 := ⟨Tryz.f129.name, by decide, Tryz.func129.trans (congrArg some (by kernel_rfl))⟩
  f31 := ⟨Tryz.f86.name, by decide, Tryz.func86.trans (congrArg some (by kernel_rfl))⟩
  t0 := Tryz.underlying0
  a0 := Tryz.isAgg0
  z0 := Tryz.sizeOf0
  v0 := Tryz.zeroValue0
  t3 := Tryz.underlying3
  a3 := Tryz.isAgg3
  z3 := Tryz.sizeOf3
  v3 := Tryz.zeroValue3
  t4 := Tryz.underlying4
  a4 := Tryz.isAgg4
  z4 := Tryz.sizeOf4
  v4 := Tryz.zeroValue4
  t22 := Tryz.underlying73
  a22 := Tryz.isAgg73
  z22 := Tryz.sizeOf73
  v22 := Tryz.zeroValue73
  a23 := Tryz.isAgg3
  z23 := Tryz.sizeOf3 }
open Go.Lib in
theorem Tryz.slices_Contains {α : Type} [Inhabited α] (enc : α → Value) (eq : α → α → Bool) (heq : EqlAt Tryz.prog 3 enc eq) (b off n c : Nat) (zs : List α) (x : α) (w : World) (hz : n ≤ zs.length) (hbig : n ≤ 9223372036854775807) (hc : ∀ j, j < zs.length → w.cell? ⟨b, off + j, none⟩ = some (enc zs[j]!)) :
    Calls Tryz.prog 86 #[.slice (some ⟨b, off, none⟩) n c, enc x] w fun e w' => e = .returned (.bool ((zs.take n).any fun y => eq x y)) ∧ w' = w := AnyE.slices_Contains Tryz.laysSlE31_f86 enc eq heq b off n c zs x w hz hbig hc
def Tryz.laysSlE041_f67_ren : Go.Shelf.Ren := ⟨fun | 41 => 67 | n => n, fun | 22 => 73 | 23 => 3 | 4 => 4 | n => n, fun | n => n⟩
theorem Tryz.laysSlE041_f67 : Go.Proofs.SlLaysE0.n41 Tryz.prog Tryz.laysSlE041_f67_ren := {
  mixed := by kernel_rfl
  f41 := ⟨Tryz.f67.name, by decide, Tryz.func67.trans (congrArg some (by kernel_rfl))⟩
  t4 := Tryz.underlying4
  a4 := Tryz.isAgg4
  z4 := Tryz.sizeOf4
  v4 := Tryz.zeroValue4
  t22 := Tryz.underlying73
  a22 := Tryz.isAgg73
  z22 := Tryz.sizeOf73
  v22 := Tryz.zeroValue73 }
open Go.RowKit Go.Lib in
theorem Tryz.slices_Clone (i0 : TypeInfo) (z : Value) (size bytes : Nat) (hi : Tryz.prog.info? 3 = some i0) (hz0 : i0.zero = some z) (hz1 : i0.size = size) (hz2 : i0.bytes = bytes) (hzs : z.cells.size = size) (hsz : 0 < size) (z23 : ∀ w, (Go.sizeOf 3).run Tryz.prog w = .ok size w) (b off n c : Nat) (news : List Value) (w : World) (hl : news.length = n * size) (hn : n ≤ maxLen) (hbig : n * bytes ≤ 140737488355328) (hc : ∀ j u, news[j]? = some u → w.cell? ⟨b, off + j, none⟩ = some u) (h1 : ∀ u ∈ news, u.oneCell' = true) :
    Calls Tryz.prog 67 #[.slice (some ⟨b, off, none⟩) n c] w fun e w' => ∃ v', e = .returned v' ∧ w'.ownsRow w.heap.size 3 size v' n news ∧ v' ≠ .slice none 0 0 ∧ Below w.heap.size w w' := AnyE.slices_Clone Tryz.laysSlE041_f67 i0 z size bytes hi hz0 hz1 hz2 hzs hsz z23 b off n c news w hl hn hbig hc h1
def Tryz.lays115_ren : Go.Shelf.Ren := ⟨fun | 115 => 25 | n => n, fun | 37 => 33 | 4 => 4 | 9 => 9 | 5 => 5 | n => n, fun | n => n⟩
theorem Tryz.lays115 : Go.Proofs.Lays.n115 Tryz.prog Tryz.lays115_ren := {
  mixed := by kernel_rfl
  f115 := Tryz.func25.trans (congrArg some (by kernel_rfl))
  t4 := Tryz.underlying4
  a4 := Tryz.isAgg4
  z4 := Tryz.sizeOf4
  v4 := Tryz.zeroValue4
  t9 := Tryz.underlying9
  a9 := Tryz.isAgg9
  z9 := Tryz.sizeOf9
  v9 := Tryz.zeroValue9
  t37 := Tryz.underlying33
  a37 := Tryz.isAgg33
  z37 := Tryz.sizeOf33
  v37 := Tryz.zeroValue33 }
theorem Tryz.bytes_Equal (v1 v2 : Value) (xs ys : List Int) (w : World) (h1 : (convert 33 9 v1).run Tryz.prog w = .ok (.string (strOfNums xs)) w) (h2 : (convert 33 9 v2).run Tryz.prog w = .ok (.string (strOfNums ys)) w) :
    Calls Tryz.prog 25 #[v1, v2] w fun e w' => e = .returned (.bool (Lib.bytesOf xs == Lib.bytesOf ys)) ∧ w' = w := Any.bytes_Equal Tryz.lays115 v1 v2 xs ys w h1 h2
end Go.Proofs.YtdjodigimhgklaaGreatDoor
