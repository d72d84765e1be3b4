import Derived.Test.YtdjodigimhgklaaGreatDoorMC19
import Derived.Test.YtdjodigimhgklaaGreatDoorMC10
import Derived.Test.YtdjodigimhgklaaGreatDoorMC09
import Derived.Test.YtdjodigimhgklaaGreatDoorMC12
import Derived.Laws.AppendOwnNone
import Derived.Laws.StructEq
import Derived.Maps.OwnIn
import Derived.Maps.AppendAt
import Derived.Test.YtdjodigimhgklaaGreatDoorMC11
import Derived.Test.YtdjodigimhgklaaGreatDoorMC17
import Derived.Test.YtdjodigimhgklaaGreatDoorMC01
/- What Each tells, where the loop's body may leave. -/
namespace Go.Proofs.YtdjodigimhgklaaGreatDoor
open Go.RowKit Go.Shelf

attribute [local go_sem] Oper.semAt_some

set_option maxRecDepth 100000 in
set_option maxHeartbeats 4000000 in
theorem each_tellsB (w : World) (j d : Nat) (nm : ByteArray) (rs : List (List UInt8)) (sz : Nat) (cut : Bool) (Fp : Nat → Prop) (h : JAt w j d nm rs sz cut Fp) (B : Nat) (hB : w.cell? ⟨B, 0, none⟩ = some (.pointer (some ⟨j, 0, none⟩))) (n : Nat) (hn : 1 ≤ n) :
    TellsB Fence.wide n Tryz.prog 122 #[.pointer (some ⟨B, 0, none⟩)] Rec.encs (Rec.ok rs) (fun k => Fp k ∨ k = B) (Came rs rs.length) w := by
  intro l J Jx W hW hJg hJxg hY h0
  have hJW := h.below hW
  have hcB : W.cell? ⟨B, 0, none⟩ = some (.pointer (some ⟨j, 0, none⟩)) := (hW.cell (p := ⟨B, 0, none⟩) (World.block_lt_of_cell? w _ hB)).trans hB
  refine callsIn_of_wp Tryz.func122 rfl trivial ?_ rfl
  simp only [Tryz.ntmps122, List.size_toArray, List.length_cons, List.length_nil, Nat.reduceAdd, Nat.reduceSub, Array.replicate_succ, Array.replicate_zero, List.push_toArray, List.append_toArray, List.nil_append, List.cons_append]
  obtain ⟨g, na, full, A, v, xs, hp, hA, hv⟩ := hJW.pay
  have cl := hp.cl
  obtain ⟨va, vc, rfl, hvc⟩ : ∃ va vc, v = .slice va rs.length vc ∧ rs.length ≤ 9223372036854775807 := by
    rcases hp.row.2 with ⟨rfl, h1⟩ | ⟨b, cap, cur, rfl, _, _, h3, h4, _⟩
    · exact ⟨none, 0, by rw [h1], by omega⟩
    · unfold maxLen at h4
      exact ⟨_, _, rfl, by omega⟩
  obtain ⟨N, hN⟩ : ∃ N, N = rs.length := ⟨_, rfl⟩
  have HN : Hid (N = rs.length) := hN
  rw [← hN] at cl hvc
  have HP : Hid (PayAt W j 2 rs g na full A (.slice va N vc) xs) := by rw [hN]; exact hp
  have hv' : ∀ k, (Value.slice va N vc).ownBlock = some k → Fp k := by rw [hN]; exact hv
  have hcnt := hJW.cnt
  have hsm := hJW.small
  have hjF : Fp j := hJW.fj
  clear hN hp hv
  gi_wp2
  gi_loopw [13] (fun i wr => ∃ (k : Nat) (pre : List Rec), k ≤ N ∧ i = .int .i64 k ∧ Hid (J pre wr ∧ Came rs k pre ∧ Keep (fun k => Fp k ∨ k = B) W wr)) (fun i _ => N - (intOf i).toNat)
  case atStart => exact ⟨0, [], Nat.zero_le _, rfl, h0, ⟨rfl, fun i x hx => by simp at hx⟩, Keep.refl _ _⟩
  case round =>
    obtain ⟨k, pre, hk, rfl, H⟩ := hrel
    by_cases hlt : k < N
    · have hkn : k < rs.length := by rw [← HN.out]; exact hlt
      have hpr : PayAt wr j 2 rs g na full A (.slice va N vc) xs := HP.out.kept (H.out.2.2.2 j (.inl hjF)) (fun i hi => H.out.2.2.2 i (.inl (hA i hi))) (fun i hi => H.out.2.2.2 i (.inl (hv' i hi)))
      obtain ⟨a, c, hx, hac, hnil, hb⟩ := hpr.bytes k hkn
      have hle := offs_le rs k hkn
      rcases hpr.cell with ⟨_, e⟩ | ⟨b, cap, e, _, _, hc⟩
      · rw [e] at hkn; simp at hkn
      · obtain rfl : va = some ⟨b, 0, none⟩ := by injection e
        clear e
        have hck := hc k _ hx
        clear hc hpr hx
        obtain ⟨m, hm⟩ : ∃ m, m = (rc rs k).length := ⟨_, rfl⟩
        have Hm : Hid (m = (rc rs k).length) := hm
        rw [← hm] at hck hb hac hnil hle
        clear hm
        have i2 : (k : Int) < (N : Int) := by omega
        have Hlt : Hid (∀ i, (Fp i ∨ i = B) → i < wr.heap.size) := fun i hi => by
          have h1 := H.out.2.2.1
          rcases hi with hi | rfl
          · exact Nat.lt_of_lt_of_le (hJW.lt i hi) h1
          · exact Nat.lt_of_lt_of_le (World.block_lt_of_cell? W _ hcB) h1
        have HY : Hid (∀ a' c' w2, w2.ownsRow wr.heap.size 5 1 (.slice a' m c') m (cellsOf (rc rs k)) → Below wr.heap.size wr w2 → YieldAt Fence.wide (n - 1) Tryz.prog l #[.int .i64 (k : Int), .slice a' m c'] w2 fun e W' => (e = .returned (.bool true) ∧ J (pre ++ [⟨k, rc rs k, a', c'⟩]) W' ∧ Keep (fun k => Fp k ∨ k = B) w2 W') ∨ (e = .returned (.bool false) ∧ Jx (pre ++ [⟨k, rc rs k, a', c'⟩]) W')) := fun a' c' w2 hown hB2 => by
          have := hY pre ⟨k, rc rs k, a', c'⟩ w2 (hJg _ _ _ H.out.1 ⟨hB2.os, hB2.tape, hB2.output, hB2.size, fun i hi _ => hB2.block i hi⟩) ⟨H.out.2.1.1.symm, hkn, rfl, by show Bytes w2 a' (rc rs k).length (rc rs k); rw [← Hm.out]; exact (ownsRow_toBytes hown).1⟩
          simp only [Rec.encs] at this
          rw [← Hm.out] at this
          exact this
        gi_wp2_with (refine ⟨trivial, ?_⟩; gi_at_call 54; refine (callsIn_wide.2 (clone_any a m c (rc rs k) wr hb hnil (by omega))).mono ?_; rintro e w2 ⟨a', c', rfl, hown, hB2, hnc, hnn⟩; have hY2 := HY.out a' c' w2 hown hB2; obtain ⟨fn, tmps, assign, body, hy, hR⟩ := hY2)
        refine hR.mono ?_
        rintro e W3 (⟨rfl, hJ3, hk3⟩ | ⟨rfl, hJ3⟩)
        · have HE : Hid (J (pre ++ [⟨k, rc rs k, a', c'⟩]) W3 ∧ Came rs (k + 1) (pre ++ [⟨k, rc rs k, a', c'⟩]) ∧ Keep (fun k => Fp k ∨ k = B) W W3) :=
            ⟨hJ3, H.out.2.1.snoc _ rfl rfl, (H.out.2.2.trans ⟨hB2.size, fun i hi => hB2.block i (Hlt.out i hi)⟩).trans hk3⟩
          gi_wp2
          go_roundw
          case rel => exact ⟨k + 1, _, by omega, by simp, HE⟩
          case measure => simp [intOf]; omega
        · have HE : Hid (Jx (pre ++ [⟨k, rc rs k, a', c'⟩]) W3) := hJ3
          gi_wp2
          refine bodyPost_ret (results_none rfl _ _ _) rfl ?_
          exact ⟨⟨_, rfl⟩, .inr ⟨_, HE.out⟩⟩
    · obtain rfl : k = N := by omega
      gi_wp2
      go_end0
      exact ⟨⟨_, rfl⟩, .inl ⟨pre, by rw [← HN.out]; exact H.out.2.1, H.out.1⟩⟩

end Go.Proofs.YtdjodigimhgklaaGreatDoor

/- Pairs in memory, in rows of one's own too, and appended to them. -/
namespace Go.Proofs.YtdjodigimhgklaaGreatDoor
open Go.RowKit Go.Shelf Go.Maps

attribute [local go_sem] Oper.semAt_some

theorem infoPr : (Tryz.prog.info? 39).map (fun i => (i.zero, i.size, i.bytes)) = some (some (.agg #[.int .u64 0, .int .u64 0]), 2, 16) := by kernel_rfl
abbrev pv (p : Pr) : Value := .agg #[.int .u64 (p.1 : Int), .int .u64 (p.2 : Int)]
def prCells : List Pr → List Value
  | [] => []
  | x :: r => .int .u64 (x.1 : Int) :: .int .u64 (x.2 : Int) :: prCells r
theorem prCells_len : ∀ l : List Pr, (prCells l).length = l.length * 2
  | [] => rfl
  | x :: r => by simp only [prCells, List.length_cons, prCells_len r]; omega
theorem prCells_one : ∀ (l : List Pr), ∀ u ∈ prCells l, u.oneCell' = true
  | [], u, h => by cases h
  | x :: r, u, h => by
    simp only [prCells, List.mem_cons] at h
    rcases h with rfl | rfl | h
    · rfl
    · rfl
    · exact prCells_one r u h
theorem prCells_append : ∀ (l m : List Pr), prCells (l ++ m) = prCells l ++ prCells m
  | [], m => rfl
  | x :: r, m => by simp [prCells, prCells_append r m]
theorem prCells_get : ∀ (l : List Pr) (j : Nat) (x : Pr), l[j]? = some x → (prCells l)[j * 2]? = some (.int .u64 (x.1 : Int)) ∧ (prCells l)[j * 2 + 1]? = some (.int .u64 (x.2 : Int))
  | [], j, x, h => by simp at h
  | y :: r, 0, x, h => by
    simp at h; subst h
    exact ⟨rfl, rfl⟩
  | y :: r, j + 1, x, h => by
    have ih := prCells_get r j x (by simpa using h)
    rw [show (j + 1) * 2 = j * 2 + 2 by omega]
    exact ih
/-- a slice of pairs -/
def Prs (w : World) (a : Option Addr) (n : Nat) (l : List Pr) : Prop := l.length = n ∧ (0 < n → ∃ b off, a = some ⟨b, off, none⟩ ∧ ∀ (j : Nat) x, l[j]? = some x → w.cell? ⟨b, off + j * 2, none⟩ = some (.int .u64 (x.1 : Int)) ∧ w.cell? ⟨b, off + j * 2 + 1, none⟩ = some (.int .u64 (x.2 : Int)))
theorem Prs.kept {w w' : World} {a : Option Addr} {n : Nat} {l : List Pr} (h : Prs w a n l) (hB : Below w.heap.size w w') : Prs w' a n l :=
  ⟨h.1, fun h0 => by
    obtain ⟨b, off, e, hc⟩ := h.2 h0
    refine ⟨b, off, e, fun j x hx => ?_⟩
    obtain ⟨h1, h2⟩ := hc j x hx
    exact ⟨(hB.cell (p := ⟨b, off + j * 2, none⟩) (World.block_lt_of_cell? w _ h1)).trans h1, (hB.cell (p := ⟨b, off + j * 2 + 1, none⟩) (World.block_lt_of_cell? w _ h2)).trans h2⟩⟩
theorem Prs.low {w w' : World} {B : Nat} {a : Option Addr} {n : Nat} {l : List Pr} (h : Prs w a n l) (hB : Below B w w') (hb : ∀ p, a = some p → p.block < B) : Prs w' a n l :=
  ⟨h.1, fun h0 => by
    obtain ⟨b, off, e, hc⟩ := h.2 h0
    have hb' := hb _ e
    refine ⟨b, off, e, fun j x hx => ?_⟩
    obtain ⟨h1, h2⟩ := hc j x hx
    exact ⟨(hB.cell (p := ⟨b, off + j * 2, none⟩) hb').trans h1, (hB.cell (p := ⟨b, off + j * 2 + 1, none⟩) hb').trans h2⟩⟩
theorem prs_nil (w : World) (a : Option Addr) : Prs w a 0 [] := ⟨rfl, fun h => by omega⟩
theorem prs_take {w : World} {a : Option Addr} {n : Nat} {l : List Pr} (h : Prs w a n l) (k : Nat) (hk : k ≤ n) : Prs w a k (l.take k) :=
  ⟨by rw [List.length_take, h.1]; omega, fun h0 => by
    obtain ⟨b, off, e, hc⟩ := h.2 (by omega)
    refine ⟨b, off, e, fun j x hx => hc j x ?_⟩
    have hj : j < k := by have := (List.getElem?_eq_some_iff.1 hx).1; rw [List.length_take] at this; omega
    rwa [List.getElem?_take, if_pos hj] at hx⟩
theorem row_shapeV {w : World} {B n : Nat} {v : Value} {xs : List Value} (h : w.ownsRow B 39 2 v n xs) : ∃ ad c, v = .slice ad n c ∧ n ≤ c ∧ (ad = none → n = 0 ∧ c = 0) := by
  rcases h.2 with ⟨rfl, rfl⟩ | ⟨g, cap, cur, rfl, _, _, hc, _⟩
  · exact ⟨none, 0, rfl, Nat.le_refl _, fun _ => ⟨rfl, rfl⟩⟩
  · exact ⟨_, _, rfl, hc, fun h => by cases h⟩
theorem own_prs {w : World} {B n c : Nat} {ad : Option Addr} {l : List Pr} (h : w.ownsRow B 39 2 (.slice ad n c) n (prCells l)) (hl : l.length = n) : Prs w ad n l := by
  refine ⟨hl, fun h0 => ?_⟩
  rcases h.2 with ⟨e, h'⟩ | ⟨g, cap, cur, e, _⟩
  · omega
  · cases e
    refine ⟨g, 0, rfl, fun j x hx => ?_⟩
    obtain ⟨h1, h2⟩ := prCells_get l j x hx
    have c1 := h.cells (g := g) rfl _ _ h1
    have c2 := h.cells (g := g) rfl _ _ h2
    rw [Addr.add_lit] at c1 c2
    simp only [Nat.zero_add] at c1 c2 ⊢
    exact ⟨c1, c2⟩
theorem row_blockV {W : World} {base n : Nat} {v : Value} {xs : List Value} (h : W.ownsRow base 39 2 v n xs) : ∀ r, v.ownBlock = some r → base ≤ r ∧ r < W.heap.size ∧ ∃ cur, W.heap[r]? = some (.cells cur 39 (0, 0)) := by
  intro r hr
  rcases h.2 with ⟨rfl, _⟩ | ⟨g, cap, cur, rfl, hb, hg, _⟩
  · cases hr
  · cases hr
    exact ⟨hb, (Array.getElem?_eq_some_iff.1 hg).1, cur, hg⟩
theorem below_grV {W W' : World} {B n : Nat} {v : Value} {xs : List Value} (h : W.ownsRow B 39 2 v n xs) (hB : B ≤ W.heap.size) (hg : W.grownBy W' v.ownBlock) : Below B W W' :=
  ⟨hg.os, hg.tape, hg.output, hg.size, fun k hk => hg.block k (by omega) (fun e => by have := (row_blockV h k e.symm).1; omega)⟩
theorem row_movedV {W W' : World} {base n : Nat} {v : Value} {xs : List Value} (h : W.ownsRow base 39 2 v n xs) (hs : ∀ r, v.ownBlock = some r → W'.heap[r]? = W.heap[r]?) : W'.ownsRow base 39 2 v n xs := by
  refine ⟨h.1, ?_⟩
  rcases h.2 with h | ⟨g, cap, cur, rfl, hg, hb, rest⟩
  · exact .inl h
  · exact .inr ⟨g, cap, cur, rfl, hg, (hs g rfl).trans hb, rest⟩
theorem row_keptV {W W' : World} {base n : Nat} {v : Value} {xs : List Value} (h : W.ownsRow base 39 2 v n xs) (hB : Below W.heap.size W W') : W'.ownsRow base 39 2 v n xs :=
  row_movedV h fun r hr => hB.block r (row_blockV h r hr).2.1
theorem row_baseV {W : World} {base base' n : Nat} {v : Value} {xs : List Value} (h : W.ownsRow base 39 2 v n xs) (hb : base' ≤ base) : W.ownsRow base' 39 2 v n xs := by
  refine ⟨h.1, ?_⟩
  rcases h.2 with h | ⟨g, cap, cur, rfl, hg, rest⟩
  · exact .inl h
  · exact .inr ⟨g, cap, cur, rfl, Nat.le_trans hb hg, rest⟩
theorem cells_pr_new (W : World) (x : Pr) : ∀ (j : Nat) u, (prCells [x])[j]? = some u → (W.alloc (.cells #[.int .u64 (x.1 : Int), .int .u64 (x.2 : Int)] 39)).cell? (Addr.add ⟨W.heap.size, 0, none⟩ j) = some u := by
  intro j u hj
  match j, hj with
  | 0, hj => simp [prCells] at hj; subst hj; simp [Addr.add]
  | 1, hj => simp [prCells] at hj; subst hj; simp [Addr.add]
theorem prs_news {w : World} {b : Nat} : ∀ (l : List Pr) (off : Nat), (∀ (j : Nat) x, l[j]? = some x → w.cell? ⟨b, off + j * 2, none⟩ = some (.int .u64 (x.1 : Int)) ∧ w.cell? ⟨b, off + j * 2 + 1, none⟩ = some (.int .u64 (x.2 : Int))) →
    ∀ (j : Nat) u, (prCells l)[j]? = some u → w.cell? ⟨b, off + j, none⟩ = some u
  | [], _, _, j, u, h => by simp [prCells] at h
  | x :: r, off, hc, 0, u, h => by
    simp [prCells] at h; subst h
    have := (hc 0 x rfl).1
    simpa using this
  | x :: r, off, hc, 1, u, h => by
    simp [prCells] at h; subst h
    have := (hc 0 x rfl).2
    simpa using this
  | x :: r, off, hc, j + 2, u, h => by
    have ih := prs_news r (off + 2) (fun i y hy => by
      have := hc (i + 1) y (by simpa using hy)
      rw [show off + (i + 1) * 2 = off + 2 + i * 2 by omega] at this
      exact this) j u (by simpa [prCells] using h)
    rw [show off + (j + 2) = off + 2 + j by omega]
    exact ih
theorem row_emptyV (w : World) (base : Nat) (hb : base ≤ w.heap.size) : (w.alloc (.cells #[] 39)).ownsRow base 39 2 (.slice (some ⟨w.heap.size, 0, none⟩) 0 0) 0 (prCells []) :=
  World.ownsRow_made w #[] 0 hb (by unfold maxLen; omega) rfl
theorem wpList_appV {wr : World} {ops : Array Oper} {rest : List Oper} {o : Oper} {a : Act} {Q : Exit → Act → World → Prop}
    (hgd : o.guard = none) (s x : Operand) (hop : o.op = Op.call { callee := Callee.builtin Builtin.append, args := #[s, x], argTypes := #[36, 36] })
    (base n m c : Nat) (v : Value) (k l : List Pr) (ad : Option Addr) (hs : a.eval s = v) (hx : a.eval x = .slice ad m c)
    (hown : wr.ownsRow base 39 2 v n (prCells k)) (hb : Prs wr ad m l) (hnil : ad = none → m = 0 ∧ c = 0) (hm : (n + m) * 16 ≤ 140737488355328) (hbase : base ≤ wr.heap.size)
    (hK : ∀ ad' c' w', n + m ≤ c' → w'.ownsRow base 39 2 (.slice ad' (n + m) c') (n + m) (prCells (k ++ l)) → Below base wr w' → wpList Tryz.prog ops Q rest (a.put o.dst (.slice ad' (n + m) c')) w') :
    wpList Tryz.prog ops Q (o :: rest) a wr := by
  obtain ⟨i0, hi, hz0, hz1, hz2⟩ := info_parts infoPr
  cases ad with
  | none =>
    obtain ⟨rfl, rfl⟩ := hnil rfl
    have hl : l = [] := List.eq_nil_of_length_eq_zero hb.1
    subst hl
    obtain ⟨ad', c', rfl, hc', _⟩ := row_shapeV hown
    refine wpList_append_own_none hgd s x 36 hop base 39 i0 2 Tryz.underlying36 hi _ n _ hs hown hx ?_
    have := hK ad' c' wr (by omega) (by simpa using hown) (Below.refl _ _)
    simpa using this
  | some ad =>
    refine wpList_append_own_at _ hgd s x 36 hop base 39 i0 _ 2 16 Tryz.underlying36 hi hz0 hz1 hz2 rfl (by omega) v n _ hs hown ad m c (prCells l) hx (by rw [prCells_len, hb.1]) ?_ (prCells_one l) (by unfold maxLen; omega) hm hbase ?_
    · intro j u hj
      have hl := hb.1
      by_cases hm0 : 0 < m
      · obtain ⟨b, off, e, hc⟩ := hb.2 hm0
        cases e
        rw [Addr.add_lit]
        exact prs_news l off hc j u hj
      · have : l = [] := List.eq_nil_of_length_eq_zero (by omega)
        subst this
        simp [prCells] at hj
    · intro v' w' h1 h2 _ _
      obtain ⟨ad', c', rfl, hc', _⟩ := row_shapeV h1
      exact hK ad' c' w' hc' (by rw [prCells_append]; exact h1) ((Below.refl base wr).grown h2 hbase (fun k hk => (hown.lt k hk).1))
/-- a box of a pair -/
def BoxV (W : World) (g : Nat) (x y : Int) : Prop := W.heap[g]? = some (.cells #[.int .u64 x, .int .u64 y] 39 (0, 0))
theorem BoxV.lt {W : World} {g : Nat} {x y : Int} (h : BoxV W g x y) : g < W.heap.size := (Array.getElem?_eq_some_iff.1 h).1
theorem BoxV.new (W : World) (x y : Int) : BoxV (W.alloc (.cells #[.int .u64 x, .int .u64 y] 39)) W.heap.size x y := World.alloc_heap_new W _
theorem BoxV.below {W W' : World} {B g : Nat} {x y : Int} (h : BoxV W g x y) (hB : Below B W W') (hg : g < B) : BoxV W' g x y := (hB.block g hg).trans h
theorem BoxV.cell {W : World} {g : Nat} {x y : Int} (h : BoxV W g x y) : W.cell? ⟨g, 0, none⟩ = some (.int .u64 x) ∧ W.cell? ⟨g, 1, none⟩ = some (.int .u64 y) := by
  unfold BoxV at h
  refine ⟨?_, ?_⟩ <;> simp [World.cell?, h]
theorem BoxV.frozen {W : World} {g : Nat} {x y : Int} (h : BoxV W g x y) : W.frozen? ⟨g, 0, none⟩ = false ∧ W.frozen? ⟨g, 1, none⟩ = false := by
  unfold BoxV at h
  refine ⟨?_, ?_⟩ <;> simp [World.frozen?, h]
theorem BoxV.all {W : World} {g : Nat} {x y : Int} (h : BoxV W g x y) (x' y' : Int) : BoxV ((W.setCell ⟨g, 0, none⟩ (.int .u64 x')).setCell ⟨g, 1, none⟩ (.int .u64 y')) g x' y' := by
  have h' := h
  unfold BoxV at h'
  simp [BoxV, World.setCell, Array.getElem?_modify, h', Array.setIfInBounds]
theorem BoxV.set0 {W : World} {g : Nat} {x y : Int} (h : BoxV W g x y) (x' : Int) : BoxV (W.setCell ⟨g, 0, none⟩ (.int .u64 x')) g x' y := by
  have h' := h
  unfold BoxV at h'
  simp [BoxV, World.setCell, Array.getElem?_modify, h', Array.setIfInBounds]
theorem BoxV.other {W : World} {g j i : Nat} {x y : Int} (h : BoxV W g x y) (hk : g ≠ j) (u : Value) : BoxV (W.setCell ⟨j, i, none⟩ u) g x y :=
  (Below.heap_setCell _ _ _ _ hk).trans h
theorem eqV (w : World) (a b c d : Int) : (binOp .eql 39 (.agg #[.int .u64 a, .int .u64 b]) (.agg #[.int .u64 c, .int .u64 d])).run Tryz.prog w = .ok (.bool (a == c && b == d)) w := by
  have u3 := Tryz.underlying23
  have hS : Tryz.prog.underlying 39 = some (.struct (Tryz.prog.fieldsOf 39)) := by kernel_rfl
  have hp : Tryz.prog.stoodInHeld 39 = false := by kernel_rfl
  rw [run_eql_struct, show (10000 : Nat) = 9999 + 1 from rfl, run_equalIn_agg w 9999 39 _ _ hS hp]
  simp only [Program.fieldsOf, Tryz.underlying39]
  go_simp
  cases h1 : (a == c) <;> cases h2 : (b == d) <;> simp_all
theorem neV (w : World) (a b c d : Int) : (binOp .neq 39 (.agg #[.int .u64 a, .int .u64 b]) (.agg #[.int .u64 c, .int .u64 d])).run Tryz.prog w = .ok (.bool (!(a == c && b == d))) w := by
  have h := eqV w a b c d
  rw [run_eql_struct] at h
  rw [run_neq_struct]
  generalize (Op.equalIn 10000 39 (.agg #[.int .u64 a, .int .u64 b]) (.agg #[.int .u64 c, .int .u64 d])).run Tryz.prog w = r at *
  cases r with
  | ok b w1 =>
    simp only [Result.andThen] at h ⊢
    cases h
    rfl
  | halt x w1 => cases h
end Go.Proofs.YtdjodigimhgklaaGreatDoor

/- The walk of rises. -/
namespace Go.Proofs.YtdjodigimhgklaaGreatDoor
open Go.RowKit Go.Shelf Go.Maps

attribute [local go_sem] Oper.semAt_some

theorem drop_getV {l : List Pr} {k : Nat} {x : Pr} (h : l[k]? = some x) : l.drop k = x :: l.drop (k + 1) := by
  obtain ⟨hk, rfl⟩ := List.getElem?_eq_some_iff.1 h
  exact List.drop_eq_getElem_cons hk
theorem take_getV {l : List Pr} {k : Nat} {x : Pr} (h : l[k]? = some x) : l.take (k + 1) = l.take k ++ [x] := by
  obtain ⟨hk, rfl⟩ := List.getElem?_eq_some_iff.1 h
  exact List.take_succ_eq_append_getElem hk

set_option maxRecDepth 100000 in
set_option maxHeartbeats 2000000 in
theorem rises_any (w : World) (a : Option Addr) (n c : Nat) (l : List Pr) (h : Prs w a n l) (hn : n ≤ 1000000) :
    Calls Tryz.prog 72 #[.slice a n c] w fun e w' => e = .returned (.bool (risF 0 l)) ∧ Below w.heap.size w w' := by
  go_enter Tryz.func72, Tryz.ntmps72
  go_wp2
  go_loopw [3, 8] (fun s i wr => ∃ k p : Nat, k ≤ n ∧ i = .int .i64 (k : Int) ∧ s = .int .u64 (p : Int) ∧ Hid (risF 0 l = risF p (l.drop k) ∧ Below w.heap.size w wr)) (fun _ i _ => n - (intOf i).toNat)
  case atStart => exact ⟨0, 0, Nat.zero_le _, rfl, rfl, rfl, Below.refl _ _⟩
  case round =>
    obtain ⟨k, p, hk, rfl, rfl, H⟩ := hrel
    by_cases hlt : k < n
    · obtain ⟨⟨x, y⟩, hx⟩ : ∃ x, l[k]? = some x := ⟨_, List.getElem?_eq_getElem (by rw [h.1]; exact hlt)⟩
      obtain ⟨b1, o1, rfl, hc1⟩ := h.2 (by omega)
      obtain ⟨t1, t2⟩ := hc1 k _ hx
      have q1 := (H.out.2.cell (p := ⟨b1, o1 + k * 2, none⟩) (World.block_lt_of_cell? w _ t1)).trans t1
      have q2 := (H.out.2.cell (p := ⟨b1, o1 + k * 2 + 1, none⟩) (World.block_lt_of_cell? w _ t2)).trans t2
      have i2 : (k : Int) < (n : Int) := by omega
      have HR : Hid (risF 0 l = (decide (p < x) && risF x (l.drop (k + 1)))) := by
        have e := H.out.1
        rw [drop_getV hx, risF] at e
        exact e
      have HB : Hid (Below w.heap.size w (wr.alloc (.cells #[.int .u64 (x : Int), .int .u64 (y : Int)] 39))) := H.out.2.alloc H.out.2.size _
      simp only at q1 q2
      clear hc1 t1 t2 hx h H
      by_cases hxp : p < x
      · have i3 : ¬ (x : Int) ≤ (p : Int) := by omega
        go_wp2
        go_roundw
        case rel => exact ⟨k + 1, x, by omega, by go_num, rfl, by rw [HR.out, decide_eq_true hxp, Bool.true_and], HB.out⟩
        case measure => simp [intOf]; omega
      · have i3 : (x : Int) ≤ (p : Int) := by omega
        go_wp2
        go_ret
        exact ⟨by rw [HR.out, decide_eq_false hxp, Bool.false_and]; rfl, HB.out⟩
    · obtain rfl : k = n := by omega
      have HR : Hid (risF 0 l = true) := by
        have e := H.out.1
        rw [List.drop_of_length_le (by rw [h.1]; exact Nat.le_refl _), risF] at e
        exact e
      go_wp2
      go_ret
      exact ⟨by rw [HR.out]; rfl, H.out.2⟩
end Go.Proofs.YtdjodigimhgklaaGreatDoor

/- The names of a memo's files. -/
namespace Go.Proofs.YtdjodigimhgklaaGreatDoor
open Go.RowKit Go.Shelf

attribute [local go_sem] Oper.semAt_some

theorem str_app (a b : List UInt8) : (⟨a.toArray⟩ : ByteArray) ++ ⟨b.toArray⟩ = ⟨(a ++ b).toArray⟩ := ByteArray.ext (by simp)
def nmB (key n : Nat) : List UInt8 := [109, 101, 109, 111, 45] ++ hexOf key ++ (if n = 0 then [] else 45 :: Lib.decDigits n)
set_option maxRecDepth 20000 in
set_option maxHeartbeats 1000000 in
theorem fileName_any (key n : Nat) (w : World) (hk : key < 18446744073709551616) (hn : n < 100) :
    Calls Tryz.prog 37 #[.int .u64 (key : Int), .int .i64 (n : Int)] w fun e w' => e = .returned (.string ⟨(nmB key n).toArray⟩) ∧ Below w.heap.size w w' := by
  have hx := hex_any key w hk
  have h16 := hexOf_len key
  have hdd : ∀ n < 100, (Lib.decDigits n).length ≤ 2 := by decide +kernel
  have hd2 := hdd n hn
  clear hdd
  by_cases h0 : n = 0
  · have i0 : ((n : Int) == 0) = true := by simp [h0]
    have HE : Hid (nmB key n = [109, 101, 109, 111, 45] ++ hexOf key) := (by simp [nmB, h0] : nmB key n = [109, 101, 109, 111, 45] ++ hexOf key)
    clear hd2 h0
    go_enter Tryz.func37, Tryz.ntmps37
    go_wp2_with (go_at_call 76; refine hx.mono ?_; clear hx; rintro e w1 ⟨rfl, hB1⟩)
    go_ret
    refine ⟨?_, hB1⟩
    show Ending.returned (Value.string ((⟨#[109, 101, 109, 111, 45]⟩ : ByteArray) ++ ⟨(hexOf key).toArray⟩)) = _
    rw [HE.out, ← str_app]
  · have i1 : ((n : Int) == 0) = false := by simp; omega
    have hit := fun W => Tryz.strconv_Itoa_small n hn W
    go_enter Tryz.func37, Tryz.ntmps37
    go_wp2_with first
      | (go_at_call 77; refine (hit _).mono ?_; clear hit; rintro e w2 ⟨rfl, hw2⟩; subst hw2)
      | (go_at_call 76; refine hx.mono ?_; clear hx; rintro e w1 ⟨rfl, hB1⟩)
    go_ret
    refine ⟨?_, hB1⟩
    show Ending.returned (Value.string ((⟨#[109, 101, 109, 111, 45]⟩ : ByteArray) ++ ⟨(hexOf key).toArray⟩ ++ ⟨#[45]⟩ ++ ⟨(Lib.decDigits n).toArray⟩)) = _
    rw [show nmB key n = [109, 101, 109, 111, 45] ++ hexOf key ++ [45] ++ Lib.decDigits n by simp [nmB, h0], ← str_app, ← str_app, ← str_app]
end Go.Proofs.YtdjodigimhgklaaGreatDoor
