import Derived.Test.YtncagdfbgpdhfaaGreatP19
import Derived.Test.YtncagdfbgpdhfaaGreatP06
import Derived.Test.YtncagdfbgpdhfaaGreatP04
import Derived.Laws.OwnMore
/- A Journal whose fields are written: what it is then. -/
namespace Go.Proofs.YtncagdfbgpdhfaaGreat
open Go.RowKit

theorem IsPay.setCell {w : World} {p o : Nat} {rs : List (List UInt8)} {Fp : Nat → Prop} (h : IsPay w p o rs Fp) (i : Nat) (u : Value) (h0 : i ≠ o) (h1 : i ≠ o + 1) (h2 : i ≠ o + 2) : IsPay (w.setCell ⟨p, i, none⟩ u) p o rs Fp := by
  obtain ⟨g, na, full, A, v, xs, h, hA, hv⟩ := h
  have hAp : ∀ k, A.ownBlock = some k → k ≠ p := fun k e => by
    rcases h.sh with ⟨e1, _⟩ | e1
    · rw [e1] at e; cases e
    · rw [e1] at e
      have : g = k := by simpa [Value.ownBlock] using e
      subst this
      exact h.gp (by rw [e1]; rfl)
  refine ⟨g, na, full, A, v, xs, { h with ca := ?_, cu := ?_, cl := ?_, fa := ?_, fu := ?_, fl := ?_, arr := ?_, row := ?_ }, hA, hv⟩
  · rw [World.cell?_setCell_other _ _ _ _ (fun e => by cases e; omega)]; exact h.ca
  · rw [World.cell?_setCell_other _ _ _ _ (fun e => by cases e; omega)]; exact h.cu
  · rw [World.cell?_setCell_other _ _ _ _ (fun e => by cases e; omega)]; exact h.cl
  · rw [World.frozen?_setCell]; exact h.fa
  · rw [World.frozen?_setCell]; exact h.fu
  · rw [World.frozen?_setCell]; exact h.fl
  · exact ownsRow_move' h.arr (fun k hk => Below.heap_setCell _ _ _ _ (hAp k hk))
  · exact ownsRow_move' h.row (fun k hk => Below.heap_setCell _ _ _ _ (fun e => h.vp (by rw [hk]; exact congrArg some e)))

theorem JAt.wide {w : World} {j d : Nat} {nm : ByteArray} {rs : List (List UInt8)} {sz : Nat} {cut : Bool} {F G : Nat → Prop} (h : JAt w j d nm rs sz cut F) (hs : ∀ k, F k → G k) (hlt : ∀ k, G k → k < w.heap.size) : JAt w j d nm rs sz cut G :=
  { h with
    pay := by
      obtain ⟨g, na, full, A, v, xs, hp, h1, h2⟩ := h.pay
      exact ⟨g, na, full, A, v, xs, hp, fun k hk => hs k (h1 k hk), fun k hk => hs k (h2 k hk)⟩
    fj := hs _ h.fj
    lt := hlt }

/-- a payload was put behind the others, and the size is written -/
theorem JAt.added {w w' : World} {j d : Nat} {nm : ByteArray} {rs : List (List UInt8)} {sz : Nat} {cut : Bool} {F : Nat → Prop} {q : List UInt8} (h : JAt w j d nm rs sz cut F) (hp : IsPay w' j 2 (rs ++ [q]) (grow F w w')) (hT : Turn F w w') (hR : Rest j 2 w w')
    (k : Nat) (hk : 9 + q.length ≤ k) (hs : sz + k ≤ 4194304) (z : Int) (hz : z = ((sz + k : Nat) : Int)) : JAt (w'.setCell ⟨j, 5, none⟩ (.int .i64 z)) j d nm (rs ++ [q]) (sz + k) cut (grow F w w') ∧ Turn F w (w'.setCell ⟨j, 5, none⟩ (.int .i64 z)) := by
  subst hz
  refine ⟨{ c0 := ?_, c1 := ?_, pay := hp.setCell 5 _ (by decide) (by decide) (by decide), c5 := ?_, c6 := ?_, f5 := ?_, f6 := ?_, fj := .inl h.fj, lt := ?_, cnt := ?_, small := hs }, hT.trans (turn_setCell w' j 5 _) (fun i _ hi => by subst hi; exact h.fj)⟩
  · rw [World.cell?_setCell_other _ _ _ _ (by simp), hR.1 0 (by decide) (by decide) (by decide)]; exact h.c0
  · rw [World.cell?_setCell_other _ _ _ _ (by simp), hR.1 1 (by decide) (by decide) (by decide)]; exact h.c1
  · exact World.cell?_setCell_same _ _ _ (by rw [hR.1 5 (by decide) (by decide) (by decide)]; exact h.c5)
  · rw [World.cell?_setCell_other _ _ _ _ (by simp), hR.1 6 (by decide) (by decide) (by decide)]; exact h.c6
  · rw [World.frozen?_setCell, hR.2]; exact h.f5
  · rw [World.frozen?_setCell, hR.2]; exact h.f6
  · intro i hi
    have := hT.size
    rcases hi with hi | hi
    · have := h.lt i hi
      simp [World.setCell]; omega
    · simp [World.setCell]; omega
  · have := h.cnt
    rw [List.length_append, List.length_singleton, List.flatten_append, List.length_append, show ([q] : List (List UInt8)).flatten = q by simp]
    omega

/-- the mark of a cut is written -/
theorem JAt.mark {w : World} {j d : Nat} {nm : ByteArray} {rs : List (List UInt8)} {sz : Nat} {cut : Bool} {F : Nat → Prop} (h : JAt w j d nm rs sz cut F) (b : Bool) : JAt (w.setCell ⟨j, 6, none⟩ (.bool b)) j d nm rs sz b F ∧ Turn F w (w.setCell ⟨j, 6, none⟩ (.bool b)) := by
  refine ⟨{ c0 := ?_, c1 := ?_, pay := h.pay.setCell 6 _ (by decide) (by decide) (by decide), c5 := ?_, c6 := ?_, f5 := ?_, f6 := ?_, fj := h.fj, lt := ?_, cnt := h.cnt, small := h.small }, (turn_setCell w j 6 _).wide (fun k hk => by subst hk; exact h.fj)⟩
  · rw [World.cell?_setCell_other _ _ _ _ (by simp)]; exact h.c0
  · rw [World.cell?_setCell_other _ _ _ _ (by simp)]; exact h.c1
  · rw [World.cell?_setCell_other _ _ _ _ (by simp)]; exact h.c5
  · exact World.cell?_setCell_same _ _ _ h.c6
  · rw [World.frozen?_setCell]; exact h.f5
  · rw [World.frozen?_setCell]; exact h.f6
  · intro i hi
    have := h.lt i hi
    simpa [World.setCell] using this

end Go.Proofs.YtncagdfbgpdhfaaGreat

/- A record's bytes, and the walk of the function that makes them. -/
namespace Go.Proofs.YtncagdfbgpdhfaaGreat
open Go.RowKit

/-- the hash of bytes, as a number -/
def hashN (l : List UInt8) : Nat := (hashTo l l.length).toNat
theorem hashN_eq (l : List UInt8) : ((hashN l : Nat) : Int) = hashTo l l.length := by
  have := hashTo_lo l l.length
  unfold hashN; omega
theorem hashN_lt (l : List UInt8) : hashN l < 18446744073709551616 := by
  have := hashTo_hi l l.length
  have := hashTo_lo l l.length
  unfold hashN; omega
/-- a record's bytes -/
def recB (l : List UInt8) : List UInt8 := short l.length ++ (l ++ wide (hashN l))
theorem wide_len (x : Nat) : (wide x).length = 8 := wideTo_len x 8
theorem recB_len (l : List UInt8) : (recB l).length = (short l.length).length + l.length + 8 := by
  unfold recB; rw [List.length_append, List.length_append, wide_len]; omega
theorem recB_pos (l : List UInt8) : 9 + l.length ≤ (recB l).length ∧ (recB l).length ≤ l.length + 18 := by
  have h1 := shortF_pos 9 l.length
  have h2 := short_len l.length
  rw [recB_len]
  unfold short at *
  omega

theorem ownsRow_up {w : World} {B B' n : Nat} {v : Value} {xs : List Value} (h : w.ownsRow B' 5 1 v n xs) (hB : B ≤ B') : w.ownsRow B 5 1 v n xs := by
  refine ⟨h.1, ?_⟩
  rcases h.2 with h0 | ⟨g, cap, cur, rfl, h1, h2⟩
  · exact .inl h0
  · exact .inr ⟨g, cap, cur, rfl, by omega, h2⟩

theorem hash_nat (a : Option Addr) (n c : Nat) (l : List UInt8) (w : World) (hb : Bytes w a n l) (hm : n ≤ maxLen) :
    Calls Tryz.prog 76 #[.slice a n c] w fun e w' => e = .returned (.int .u64 (hashN l)) ∧ w' = w := by
  rw [hashN_eq, hb.1]
  exact hash_any a n c l w hb hm

set_option maxHeartbeats 1000000 in
theorem form_any (a : Option Addr) (n c : Nat) (l : List UInt8) (w : World) (hb : Bytes w a n l) (hn : n ≤ 140737488355328) :
    Calls Tryz.prog 106 #[.slice a n c] w fun e w' => ∃ g c', e = .returned (.slice (some ⟨g, 0, none⟩) (recB l).length c') ∧
      w'.ownsRow w.heap.size 5 1 (.slice (some ⟨g, 0, none⟩) (recB l).length c') (recB l).length (cellsOf (recB l)) ∧ Below w.heap.size w w' := by
  have hrs := run_string w a n c l hb
  have hnilB : Bytes w none 0 [] := ⟨rfl, fun h => absurd h (by omega)⟩
  have hx1 : Calls Tryz.prog 139 #[.slice none 0 0, .string ⟨l.toArray⟩] w fun e w' => ∃ g m c, Hid (m + 8 = (recB l).length ∧ m ≤ 281474976710640) ∧ e = .returned (.slice (some ⟨g, 0, none⟩) m c) ∧
      w'.ownsRow w.heap.size 5 1 (.slice (some ⟨g, 0, none⟩) m c) m (cellsOf (short l.length ++ l)) ∧ w.grownBy w' none := by
    have hs := short_len l.length
    have hl := hb.1
    refine (putText_any none 0 0 ⟨l.toArray⟩ [] w hnilB (by show 0 + l.length ≤ _; omega)).mono ?_
    rintro e w' ⟨g, m, c1, hm, he, hown, hg⟩
    have hm' : m = 0 + (short l.length).length + l.length := hm
    exact ⟨g, m, c1, ⟨by rw [recB_len]; omega, by omega⟩, he, hown, hg⟩
  go_enter Tryz.func106, Tryz.ntmps106
  go_wp2_with fail
  refine hx1.mono ?_
  rintro e w1 ⟨g, m, c1, hm, rfl, hown1, hg1⟩
  have hB1 : Below w.heap.size w w1 := (Below.refl _ _).grown hg1 (Nat.le_refl _) (by simp)
  have hb1 : Bytes w1 a n l := hb.kept hg1 (by simp)
  have hbm := (ownsRow_bytes hown1).1
  clear hb hrs hx1 hown1 hg1
  go_wp2_with fail
  refine (hash_nat a n c l w1 hb1 (by unfold maxLen; omega)).mono ?_
  rintro e w2 ⟨rfl, rfl⟩
  clear hb1
  go_wp2_with fail
  refine (putWord_any (some ⟨g, 0, none⟩) m c1 (hashN l) _ w2 hbm hm.out.2 (hashN_lt l)).mono ?_
  rintro e w3 ⟨g3, c3, rfl, hown3, hg3⟩
  clear hbm
  go_wp2
  go_ret
  have hE2 : (short l.length ++ l) ++ wide (hashN l) = recB l := by unfold recB; rw [List.append_assoc]
  rw [hE2, hm.out.1] at hown3
  exact ⟨g3, c3, by rw [hm.out.1]; rfl, ownsRow_up hown3 hB1.size, hB1.grown hg3 hB1.size (by simp)⟩

end Go.Proofs.YtncagdfbgpdhfaaGreat

/- copy into the array of a list of payloads, as a step of a walk. -/
namespace Go.Proofs.YtncagdfbgpdhfaaGreat
open Go.RowKit

theorem cellsOf_splice (L : List UInt8) (off : Nat) (l : List UInt8) : cellsOf (splice L off l) = splice (cellsOf L) off (cellsOf l) := by
  simp [splice, cellsOf]
theorem splice_head (L : List UInt8) (off : Nat) (l : List UInt8) (h : off ≤ L.length) : (splice L off l).take (off + l.length) = L.take off ++ l := by
  unfold splice
  rw [← List.append_assoc, List.take_append_of_le_length (by simp; omega), List.take_of_length_le (by simp; omega)]
theorem splice_nil (L : List UInt8) (off : Nat) : splice L off [] = L := by simp [splice]

theorem grownBy_refl (w : World) (row : Option Nat) : w.grownBy w row := ⟨rfl, rfl, rfl, Nat.le_refl _, fun _ _ _ => rfl⟩
theorem grownBy_setRow (w : World) (g : Nat) (cs : Array Value) : w.grownBy (w.setRow g cs) (some g) :=
  ⟨rfl, rfl, rfl, by simp [World.setRow], fun k _ hk => setRow_other w g k cs (fun e => hk (by rw [e]))⟩

/-- copy of bytes into a row of bytes that is owned, from place off on -/
theorem run_copy_bytes (w : World) (ty : TypeId) (A : Value) (g na off : Nat) (full : List UInt8) (hown : w.ownsRow 0 5 1 A na (cellsOf full)) (hA : A = .slice none 0 0 ∨ A = .slice (some ⟨g, 0, none⟩) na na)
    (dp sp : Option Addr) (dl dc m c : Nat) (l : List UInt8) (hb : Bytes w sp m l) (hm : m ≤ dl) (hfit : off + m ≤ na) (hpos : 0 < m → dp = some ⟨g, off, none⟩) :
    ∃ w', (Builtin.copy_ #[80, 80] ty #[.slice dp dl dc, .slice sp m c]).run Tryz.prog w = .ok (goInt m) w' ∧ w'.ownsRow 0 5 1 A na (cellsOf (splice full off l)) ∧ w.grownBy w' A.ownBlock := by
  obtain ⟨i0, hi, hz0, hz1, hz2⟩ := info_parts Tryz.info5
  have hu := Tryz.underlying80
  have hsz : (Tryz.prog.info? 5).map (·.size) = some 1 := by rw [hi]; simp [hz1]
  have hll : (cellsOf l).length = m := by rw [cellsOf_length, hb.1]
  have hmin : Nat.min m dl = m := Nat.min_eq_left hm
  by_cases h0 : m = 0
  · subst h0
    have : l = [] := List.eq_nil_of_length_eq_zero hb.1
    subst this
    rw [splice_nil]
    exact ⟨w, run_copy_none (P := Tryz.prog) w 80 80 ty 5 dp sp dl dc 0 c hu hsz hmin, hown, grownBy_refl _ _⟩
  · obtain rfl := hpos (by omega)
    obtain ⟨b, so, rfl, hc⟩ := hb.2 (by omega)
    rcases hown.2 with ⟨_, hn0⟩ | ⟨g', cap, cur, hAe, _, hg, hcap, hmx, hcs, hxs⟩
    · omega
    · rcases hA with hA | hA
      · rw [hA] at hAe; cases hAe
      · rw [hA] at hAe
        cases hAe
        have hsrc : ∀ j v, (cellsOf l)[j]? = some v → w.cell? ((⟨b, so, none⟩ : Addr).add j) = some v := by
          intro j v hj
          have hjl : j < m := by have := (List.getElem?_eq_some_iff.1 hj).1; omega
          rw [cellsOf_get l j (by rw [hb.1]; exact hjl)] at hj
          rw [Addr.add_lit, hc j hjl]; exact hj
        have hcur : cur.toList = cellsOf full := by
          rw [← hxs, List.take_of_length_le (by simp; omega)]
        have hrun := run_copy_row (P := Tryz.prog) w 80 80 ty 5 g off dl dc ⟨b, so, none⟩ m c cur 5 (cellsOf l) hu hsz hg (by rw [hll]; exact hmin.symm) hsrc (by rw [hll, hcs]; omega) (cellsOf_one l)
        have hfl : full.length = na := by have := hown.1; rw [cellsOf_length] at this; omega
        have hsp : cur.toList.take off ++ (cellsOf l ++ cur.toList.drop (off + (cellsOf l).length)) = cellsOf (splice full off l) := by
          rw [cellsOf_splice, hcur]; rfl
        have hlen : (cellsOf (splice full off l)).length = na := by
          rw [cellsOf_splice, length_splice _ _ _ (by rw [hll, cellsOf_length, hfl]; exact hfit), cellsOf_length, hfl]
        rw [List.append_assoc, hsp] at hrun
        refine ⟨_, by rw [hrun, hll], ⟨by rw [hlen]; omega, .inr ⟨g, na, _, hA, Nat.zero_le _, setRow_heap w g _ _ _ _ hg, Nat.le_refl _, hmx, by simp [hlen], ?_⟩⟩, ?_⟩
        · simp
          exact List.take_of_length_le (by omega)
        · rw [hA]; exact grownBy_setRow w g _

theorem step_copy_bytes (w : World) {ops : Array Oper} {o : Oper} {a : Act} {K : Act → World → Prop} {Q : Exit → Act → World → Prop} {E : Prop} (hgd : o.guard = none) (d s : Operand)
    (ho : o.op = .call { callee := .builtin .copy, args := #[d, s], argTypes := #[80, 80] })
    (A : Value) (g na off : Nat) (full : List UInt8) (hown : w.ownsRow 0 5 1 A na (cellsOf full)) (hA : A = .slice none 0 0 ∨ A = .slice (some ⟨g, 0, none⟩) na na)
    (dp sp : Option Addr) (dl dc m c : Nat) (l : List UInt8) (hd : a.eval d = .slice dp dl dc) (hs : a.eval s = .slice sp m c) (hb : Bytes w sp m l) (hm : m ≤ dl) (hfit : off + m ≤ na) (hpos : 0 < m → dp = some ⟨g, off, none⟩)
    (h : ∀ w', w'.ownsRow 0 5 1 A na (cellsOf (splice full off l)) → w.grownBy w' A.ownBlock → K (a.put o.dst (goInt m)) w') :
    if Region.wanted o (yielded ops a.tmps) = true then Oper.wp Tryz.prog o a w K Q else E := by
  have hw : Region.wanted o (yielded ops a.tmps) = true := by simp [Region.wanted, hgd]
  rw [if_pos hw]
  obtain ⟨w', hr, h1, h2⟩ := run_copy_bytes w o.type A g na off full hown hA dp sp dl dc m c l hb hm hfit hpos
  unfold Oper.wp
  simp [execOp, ho, resolve, invoke, builtin, hd, hs, hr, Result.andThen]
  exact h w' h1 h2

end Go.Proofs.YtncagdfbgpdhfaaGreat

/- The walk of the method that takes another array for a list of payloads. -/
namespace Go.Proofs.YtncagdfbgpdhfaaGreat
open Go.RowKit

theorem made_bytes (N : Nat) : (madeCells (Value.int .u8 0).cells N).toList = cellsOf (List.replicate N 0) := by
  have : (Value.int .u8 0).cells = #[Value.int .u8 0] := rfl
  rw [this, toList_madeCells_one]
  simp [cellsOf]

/-- what holds behind k rounds of the move: the first k slices lead into block G, the others are as they were -/
def MoveInv (w2 wr : World) (G : Nat) (rs : List (List UInt8)) (v : Value) (n : Nat) (xs : List Value) (k : Nat) : Prop :=
  Turn (fun j => v.ownBlock = some j) w2 wr ∧ ∃ xs', wr.ownsRow 0 80 1 v n xs' ∧ (∀ j, j < k → Elt G rs xs' j) ∧ (∀ j, k ≤ j → xs'[j]? = xs[j]?)

theorem move_step {w2 wr : World} {G bl n vc k q R N : Nat} {rs : List (List UInt8)} {xs : List Value} (hn : n = rs.length) (hk : k < n) (hR : R + poffs rs k = N) (hq : 0 < R → q = poffs rs k) (hm : (rc rs k).length ≤ R)
    (h : MoveInv w2 wr G rs (.slice (some ⟨bl, 0, none⟩) n vc) n xs k) : MoveInv w2 (wr.setCell ⟨bl, k, none⟩ (.slice (some ⟨G, q, none⟩) (rc rs k).length R)).drew G rs (.slice (some ⟨bl, 0, none⟩) n vc) n xs (k + 1) := by
  obtain ⟨hT, xs', hrow, hlo, hhi⟩ := h
  refine ⟨hT.trans (Gp := fun j => j = bl) ⟨rfl, rfl, rfl, by simp [World.setCell, World.drew], fun j _ hj => Below.heap_setCell _ _ _ _ hj⟩ (fun i _ hi => by subst hi; rfl), ?_⟩
  have hlen : xs'.length = n := by have := hrow.1; omega
  refine ⟨_, (hrow.stored k _).1.drew, fun j hj => ?_, fun j hj => ?_⟩
  · by_cases e : j = k
    · subst e
      refine ⟨some ⟨G, q, none⟩, R, by simp [hlen, hk], hm, by simp, fun h0 => by rw [hq (by omega)]⟩
    · obtain ⟨a, c, h1, h2⟩ := hlo j (by omega)
      exact ⟨a, c, by rw [List.getElem?_set_ne (by omega)]; exact h1, h2⟩
  · rw [List.getElem?_set_ne (by omega)]
    exact hhi j (by omega)

/-- a list of payloads whose array has N bytes -/
def IsPayN (w : World) (p o : Nat) (rs : List (List UInt8)) (Fp : Nat → Prop) (N : Nat) : Prop :=
  ∃ g full v xs, PayAt w p o rs g N full (.slice (some ⟨g, 0, none⟩) N N) v xs ∧ (∀ k, (Value.slice (some ⟨g, 0, none⟩) N N).ownBlock = some k → Fp k) ∧ (∀ k, v.ownBlock = some k → Fp k)

theorem move_end {w w2 wr : World} {p o g na N : Nat} {rs : List (List UInt8)} {full : List UInt8} {A v : Value} {xs : List Value} {Fp : Nat → Prop} (h : PayAt w p o rs g na full A v xs) (hv : ∀ k, v.ownBlock = some k → Fp k)
    (hp : Fp p) (hlt : ∀ k, Fp k → k < w.heap.size) (hN : rs.flatten.length ≤ N) (hT : Turn (fun _ => False) w w2) (hs : w.heap.size < w2.heap.size)
    (hown : w2.ownsRow 0 5 1 (.slice (some ⟨w.heap.size, 0, none⟩) N N) N (cellsOf (splice (List.replicate N 0) 0 rs.flatten))) (hM : MoveInv w2 wr w.heap.size rs v rs.length xs rs.length) :
    IsPayN (wr.setCell ⟨p, o, none⟩ (.slice (some ⟨w.heap.size, 0, none⟩) N N)) p o rs (grow Fp w (wr.setCell ⟨p, o, none⟩ (.slice (some ⟨w.heap.size, 0, none⟩) N N))) N ∧ Turn Fp w (wr.setCell ⟨p, o, none⟩ (.slice (some ⟨w.heap.size, 0, none⟩) N N)) ∧ Rest p o w (wr.setCell ⟨p, o, none⟩ (.slice (some ⟨w.heap.size, 0, none⟩) N N)) := by
  obtain ⟨hM, xs', hrow, hel, _⟩ := hM
  have hplt := hlt p hp
  have hvp : ¬ v.ownBlock = some p := h.vp
  have hwr : Turn Fp w wr := (hT.wide (fun _ h => h.elim)).trans hM (fun i _ hi => hv i hi)
  have hw3 : Turn Fp w (wr.setCell ⟨p, o, none⟩ (.slice (some ⟨w.heap.size, 0, none⟩) N N)) := hwr.trans (turn_setCell wr p o _) (fun i _ hi => by subst hi; exact hp)
  have hpw : wr.heap[p]? = w.heap[p]? := (hM.block p (by have := hT.size; omega) hvp).trans (hT.block p hplt (fun h => h))
  have hvG : ¬ v.ownBlock = some w.heap.size := fun e => by have := hlt _ (hv _ e); omega
  refine ⟨⟨w.heap.size, splice (List.replicate N 0) 0 rs.flatten, v, xs', ?_, ?_, ?_⟩, hw3, (Rest.of_block hpw).trans (Rest.setCell _ _ _ (.inl rfl))⟩
  · refine { ca := ?_, cu := ?_, cl := ?_, fa := ?_, fu := ?_, fl := ?_, arr := ?_, sh := .inr rfl, pre := ?_, fit := hN, row := ?_, el := hel, gp := fun _ => by omega, vp := h.vp, gv := fun _ => hvG }
    · exact World.cell?_setCell_same _ _ _ (by rw [World.cell?_of_block hpw]; exact h.ca)
    · rw [World.cell?_setCell_other _ _ _ _ (by simp), World.cell?_of_block hpw]; exact h.cu
    · rw [World.cell?_setCell_other _ _ _ _ (by simp), World.cell?_of_block hpw]; exact h.cl
    · rw [World.frozen?_setCell, World.frozen?_of_block hpw]; exact h.fa
    · rw [World.frozen?_setCell, World.frozen?_of_block hpw]; exact h.fu
    · rw [World.frozen?_setCell, World.frozen?_of_block hpw]; exact h.fl
    · refine ownsRow_move' hown (fun k hk => ?_)
      simp only [Value.ownBlock, Option.some.injEq] at hk
      subst hk
      rw [Below.heap_setCell _ _ _ _ (by show w.heap.size ≠ p; omega)]
      exact hM.block _ hs hvG
    · have := splice_head (List.replicate N 0) 0 rs.flatten (Nat.zero_le _)
      rw [Nat.zero_add] at this
      rw [this]; rfl
    · exact ownsRow_move' hrow (fun k hk => Below.heap_setCell _ _ _ _ (fun e => hvp (by rw [hk]; exact congrArg some e)))
  · intro k hk
    simp only [Value.ownBlock, Option.some.injEq] at hk
    subst hk
    exact .inr ⟨Nat.le_refl _, by have := hM.size; simp [World.setCell]; omega⟩
  · exact fun k hk => .inl (hv k hk)

set_option maxRecDepth 20000 in
set_option maxHeartbeats 2000000 in
theorem move_any (p o N : Nat) (rs : List (List UInt8)) (Fp : Nat → Prop) (w : World) (h : IsPay w p o rs Fp) (hp : Fp p) (hlt : ∀ k, Fp k → k < w.heap.size) (hN : rs.flatten.length ≤ N) (hmax : N ≤ 16777216) :
    Calls Tryz.prog 125 #[.pointer (some ⟨p, o, none⟩), .int .i64 N] w fun e w' => e = .returned (.tuple #[]) ∧ IsPayN w' p o rs (grow Fp w w') N ∧ Turn Fp w w' ∧ Rest p o w w' := by
  obtain ⟨g, na, full, A, v, xs, h, hA, hv⟩ := h
  have ca := h.ca
  have cu := h.cu
  have cl := h.cl
  have fit := h.fit
  obtain ⟨ad, rfl⟩ : ∃ ad, A = .slice ad na na := by
    rcases h.sh with ⟨rfl, rfl⟩ | rfl
    · exact ⟨_, rfl⟩
    · exact ⟨_, rfl⟩
  have hbA : Bytes w ad rs.flatten.length rs.flatten := by
    have := ((ownsRow_toBytes h.arr).1).take _ fit
    rwa [h.pre] at this
  have hplt := hlt p hp
  obtain ⟨i0, hi, hz0, hz1, hz2⟩ := info_parts Tryz.info5
  have hu := Tryz.underlying80
  obtain ⟨U, hU⟩ : ∃ U, U = rs.flatten.length := ⟨_, rfl⟩
  have HU : Hid (U = rs.flatten.length) := hU
  rw [← hU] at cu fit hbA hN
  clear hU
  have i1 : (U : Int) ≤ (na : Int) := by omega
  have i2 : (0 : Int) ≤ (U : Int) := by omega
  go_enter Tryz.func125, Tryz.ntmps125
  go_wp2_with (at_make; refine wpList_make_part _ rfl _ _ 80 rfl 5 i0 (.int .u8 0) hu hi hz0 hz1 hz2 _ _ N N _ _ rfl rfl rfl rfl (Nat.le_refl _) (by omega) ?_; intro w1 hg1 hb1)
  have ca1 := (hb1.cell (p := ⟨p, o, none⟩) hplt).trans ca
  have cu1 := (hb1.cell (p := ⟨p, o + 1, none⟩) hplt).trans cu
  have hbA1 : Bytes w1.drew ad U rs.flatten := ⟨hbA.1, fun h0 => by
    obtain ⟨b, off, e, hc⟩ := hbA.2 h0
    exact ⟨b, off, e, fun i hi => by
      have h2 := hc i hi
      exact (hb1.cell (p := ⟨b, off + i, none⟩) (World.block_lt_of_cell? w _ h2)).trans h2⟩⟩
  have hown1 : w1.drew.ownsRow 0 5 1 (.slice (some ⟨w.heap.size, 0, none⟩) N N) N (cellsOf (List.replicate N 0)) := by
    refine ⟨by rw [cellsOf_length]; simp, .inr ⟨w.heap.size, N, _, rfl, Nat.zero_le _, hg1.out, Nat.le_refl _, by unfold maxLen; omega, by rw [size_madeCells]; omega, ?_⟩⟩
    rw [made_bytes, List.take_of_length_le (by rw [cellsOf_length]; simp)]
  go_region_held3 (fun W => W.cell? ⟨p, o, none⟩ = some (.slice ad na na) ∧ W.cell? ⟨p, o + 1, none⟩ = some (.int .i64 U))
    (first
      | (go_split_ands
         refine ⟨by go_keep, by go_keep⟩)
      | (go_split_ands
         exact ⟨hgr.cell ca1 (fun e => by simp [Value.ownBlock] at e; omega), hgr.cell cu1 (fun e => by simp [Value.ownBlock] at e; omega)⟩))
    ((refine step_copy_bytes _ (by rfl) _ _ (by rfl) (.slice (some ⟨w.heap.size, 0, none⟩) N N) w.heap.size N 0 (List.replicate N 0) hown1 (.inr rfl) _ _ _ _ _ _ _ (by rfl) (by rfl) hbA1 (by omega) (by omega) (fun _ => rfl) ?_; intro w2 hown2 hgr))
  have HG : Hid (Turn (fun _ => False) w w2 ∧ w2.cell? ⟨p, o + 2, none⟩ = some v ∧ w2.ownsRow 0 80 1 v rs.length xs ∧ w.heap.size < w2.heap.size) := by
    have hT : Turn (fun _ => False) w w2 := ((Turn.of_below _ hb1).trans (b := w1) (Gp := fun k => k = w.heap.size) ⟨hgr.os, hgr.tape, hgr.output, hgr.size, fun k hk hf => hgr.block k hk (fun e => hf (by simpa [Value.ownBlock] using e))⟩ (fun i hi e => by omega))
    refine ⟨hT, hT.cell cl (fun h => h), ownsRow_move' h.row (fun k hk => hT.block k (hlt k (hv k hk)) (fun h => h)), (hown2.lt w.heap.size rfl).2⟩
  obtain ⟨va, vc, rfl, hvc⟩ : ∃ va vc, v = .slice va rs.length vc ∧ rs.length ≤ 9223372036854775807 := by
    rcases h.row.2 with ⟨rfl, h1⟩ | ⟨b, cap, cur, rfl, _, _, h3, h4, _⟩
    · exact ⟨none, 0, by rw [h1], by omega⟩
    · unfold maxLen at h4
      exact ⟨_, _, rfl, by omega⟩
  have cl2 := HG.out.2.1
  have ca2 : w2.cell? ⟨p, o, none⟩ = some (.slice ad na na) := HG.out.1.cell ca (fun h => h)
  have H : Hid (PayAt w p o rs g na full (.slice ad na na) (.slice va rs.length vc) xs) := h
  clear h hbA hbA1 hown1 ca cu cl ca1 cu1 i1 i2 fit hg1 hb1
  obtain ⟨n, hn⟩ : ∃ n, n = rs.length := ⟨_, rfl⟩
  have Hn : Hid (n = rs.length) := hn
  rw [← hn] at cl2 hvc
  clear hn
  go_wp2_with fail
  go_loopw [5, 27] (fun r i wr => ∃ k q R : Nat, k ≤ n ∧ i = .int .i64 k ∧ r = .slice (some ⟨w.heap.size, q, none⟩) R R ∧ Hid (R + poffs rs k = N ∧ (0 < R → q = poffs rs k)) ∧ wr.cell? ⟨p, o + 2, none⟩ = some (.slice va n vc) ∧
      Hid (MoveInv w2 wr w.heap.size rs (.slice va n vc) n xs k))
    (fun _ i _ => n - (intOf i).toNat)
  case atStart =>
    refine ⟨0, 0, N, Nat.zero_le _, rfl, rfl, ⟨by simp [poffs], fun _ => rfl⟩, cl2, Turn.refl _ _, xs, by rw [Hn.out]; exact HG.out.2.2.1, fun j hj => by omega, fun j _ => rfl⟩
  case round =>
    obtain ⟨k, q, R, hk, rfl, rfl, HR, c2, HT⟩ := hrel
    clear cl2
    by_cases hlt' : k < n
    · obtain ⟨bl, rfl⟩ : ∃ bl, va = some ⟨bl, 0, none⟩ := by
        obtain ⟨_, xs', hrow, _⟩ := HT.out
        rcases hrow.2 with ⟨e, h0⟩ | ⟨b, _, _, e, _⟩
        · omega
        · cases e; exact ⟨_, rfl⟩
      obtain ⟨a, c, m, Hm, hcell, hfz⟩ : ∃ a c m, Hid (m = (rc rs k).length) ∧ wr.cell? ⟨bl, k, none⟩ = some (.slice a m c) ∧ wr.frozen? ⟨bl, k, none⟩ = false := by
        obtain ⟨_, xs', hrow, _, hhi⟩ := HT.out
        obtain ⟨a, c, hx, _⟩ := H.out.el k (by rw [← Hn.out]; exact hlt')
        exact ⟨a, c, _, rfl, by rw [hrow.cellAt k (by omega), hhi k (Nat.le_refl _)]; exact hx, hrow.frozenAt k⟩
      have hpb : ¬ p = bl := fun e => H.out.vp (by rw [e]; rfl)
      have hpb' : ¬ bl = p := fun e => hpb e.symm
      have hmR : m ≤ R := by
        have h1 := offs_le rs k (by rw [← Hn.out]; exact hlt')
        have h2 := HR.out.1
        have h3 := HU.out
        have h4 := Hm.out
        omega
      have i1 : (m : Int) ≤ (R : Int) := by omega
      have i2 : (k : Int) < (n : Int) := by omega
      have HS : Hid (MoveInv w2 (wr.setCell ⟨bl, k, none⟩ (.slice (some ⟨w.heap.size, q, none⟩) m R)).drew w.heap.size rs (.slice (some ⟨bl, 0, none⟩) n vc) n xs (k + 1)) := by
        have := move_step Hn.out hlt' HR.out.1 HR.out.2 (by rw [← Hm.out]; exact hmR) HT.out
        rw [← Hm.out] at this
        exact this
      have hO : Hid (poffs rs (k + 1) = poffs rs k + m) := by
        have := offs_succ rs k (by rw [← Hn.out]; exact hlt')
        rw [← Hm.out] at this
        exact this
      have c2' : (wr.setCell ⟨bl, k, none⟩ (.slice (some ⟨w.heap.size, q, none⟩) m R)).cell? ⟨p, o + 2, none⟩ = some (.slice (some ⟨bl, 0, none⟩) n vc) := by
        rw [World.cell?_setCell_other _ _ _ _ (fun e => by cases e; exact hpb rfl)]; exact c2
      by_cases hRm : R = m
      · subst hRm
        go_wp2_with fail
        go_region
        go_wp2
        go_roundw
        case rel => exact ⟨k + 1, q, 0, by omega, by go_num, rfl, ⟨by have := HR.out.1; have := hO.out; omega, fun h => by omega⟩, c2', HS⟩
        case measure => simp [intOf]; omega
      · have i3 : ¬ m = R := fun e => hRm e.symm
        go_wp2_with fail
        go_region
        go_wp2
        go_roundw
        case rel => exact ⟨k + 1, q + m, R - m, by omega, by go_num, rfl, ⟨by have := HR.out.1; have := hO.out; omega, fun h => by have := HR.out.2 (by omega); have := hO.out; omega⟩, c2', HS⟩
        case measure => simp [intOf]; omega
    · obtain rfl : k = n := by omega
      have ca3 : wr.cell? ⟨p, o, none⟩ = some (.slice ad na na) := HT.out.1.cell ca2 (fun e => H.out.vp (by rw [← Hn.out]; exact e))
      have hfa : wr.frozen? ⟨p, o, none⟩ = false := by
        rw [HT.out.1.frozen (by have := HG.out.1.size; show p < _; omega) (fun e => H.out.vp (by rw [← Hn.out]; exact e)), HG.out.1.frozen hplt (fun h => h)]; exact H.out.fa
      go_wp2
      go_end0
      refine ⟨rfl, ?_⟩
      have HM := HT.out
      have HN := Hn.out
      subst HN
      exact move_end H.out hv hp hlt (by rw [← HU.out]; exact hN) HG.out.1 HG.out.2.2.2 hown2 HM

end Go.Proofs.YtncagdfbgpdhfaaGreat
