import Derived.Test.YtdjodigimhgklaaGreatDoorMD16
import Derived.Test.YtdjodigimhgklaaGreatDoorMD15
import Derived.Test.YtdjodigimhgklaaGreatDoorMD07
import Derived.Deep.CutRange
/- The walks of the document's Find, Put, Sorted. -/
namespace Go.Proofs.YtdjodigimhgklaaGreatDoor
open Go.RowKit Go.Shelf Go.Maps

attribute [local go_sem] Oper.semAt_some

/-- a slice of pairs, whole -/
structure PrV (w : World) (a : Option Addr) (n c : Nat) (l : List Pr) : Prop where
  prs : Prs w a n l
  nil : a = none → n = 0 ∧ c = 0
  cap : n ≤ c
theorem PrV.kept {w w' : World} {a : Option Addr} {n c : Nat} {l : List Pr} (h : PrV w a n c l) (hB : Below w.heap.size w w') : PrV w' a n c l := ⟨h.prs.kept hB, h.nil, h.cap⟩
theorem own_prv {w : World} {B n : Nat} {v : Value} {l : List Pr} (h : w.ownsRow B 39 2 v n (prCells l)) : ∃ ad c, v = .slice ad n c ∧ PrV w ad n c l ∧ l.length = n := by
  obtain ⟨ad, c, rfl, h1, h2⟩ := row_shapeV h
  have hl : l.length = n := by have := h.1; rw [prCells_len] at this; omega
  exact ⟨ad, c, rfl, ⟨own_prs h hl, h2, h1⟩, hl⟩

/-- a slice of pairs lies in a block of pairs -/
def PairB (w : World) (a : Option Addr) : Prop := ∀ p, a = some p → ∃ cur fz, w.heap[p.block]? = some (.cells cur 39 fz)
theorem PairB.none (w : World) : PairB w none := fun p h => by cases h
theorem PairB.kept {w w' : World} {a : Option Addr} (h : PairB w a) (hB : Below w.heap.size w w') : PairB w' a := fun p e => by
  obtain ⟨cur, fz, hc⟩ := h p e
  exact ⟨cur, fz, (hB.block _ (Array.getElem?_eq_some_iff.1 hc).1).trans hc⟩
theorem PairB.own {w : World} {B n c : Nat} {a : Option Addr} {xs : List Value} (h : w.ownsRow B 39 2 (.slice a n c) n xs) : PairB w a := fun p e => by
  subst e
  rcases h.2 with ⟨e, _⟩ | ⟨g, cap, cur, e, _, hg, _⟩
  · cases e
  · cases e; exact ⟨cur, _, hg⟩

/-- a slice of pairs, whole, in a block of pairs -/
structure PrQ (w : World) (a : Option Addr) (n c : Nat) (l : List Pr) : Prop extends PrV w a n c l where
  pb : PairB w a
theorem PrQ.kept {w w' : World} {a : Option Addr} {n c : Nat} {l : List Pr} (h : PrQ w a n c l) (hB : Below w.heap.size w w') : PrQ w' a n c l := ⟨h.toPrV.kept hB, h.pb.kept hB⟩

theorem prs_one (W : World) (x y : Nat) : Prs (W.alloc (.cells #[.int .u64 (x : Int), .int .u64 (y : Int)] 39)) (some ⟨W.heap.size, 0, none⟩) 1 [(x, y)] := by
  have hb := World.alloc_heap_new W (.cells #[.int .u64 (x : Int), .int .u64 (y : Int)] 39)
  generalize W.alloc (.cells #[.int .u64 (x : Int), .int .u64 (y : Int)] 39) = W' at *
  refine ⟨rfl, fun _ => ⟨_, _, rfl, fun j p hj => ?_⟩⟩
  match j, hj with
  | 0, hj =>
    simp at hj
    subst hj
    simp [World.cell?, hb]
theorem rfind_any (w : World) (a : Option Addr) (n c x : Nat) (l : List Pr) (h : Prs w a n l) (hn : n ≤ 1000000) :
    Calls Tryz.prog 46 #[.slice a n c, .int .u64 (x : Int)] w fun e w' => e = .returned (.int .i64 (idxF l x 0)) ∧ w' = w := by
  go_enter Tryz.func46, Tryz.ntmps46
  go_wp2
  go_loop [5] (fun i => ∃ k : Nat, k ≤ n ∧ i = .int .i64 (k : Int) ∧ Hid (idxF l x 0 = idxF (l.drop k) x k)) (fun i => n - (intOf i).toNat)
  case atStart => exact ⟨0, Nat.zero_le _, rfl, rfl⟩
  case round =>
    obtain ⟨k, hk, rfl, H⟩ := hrel
    by_cases hlt : k < n
    · obtain ⟨⟨y, z⟩, hx⟩ : ∃ x, l[k]? = some x := ⟨_, List.getElem?_eq_getElem (by rw [h.1]; exact hlt)⟩
      obtain ⟨b1, o1, rfl, hc1⟩ := h.2 (by omega)
      obtain ⟨q1, _⟩ := hc1 k _ hx
      have i2 : (k : Int) < (n : Int) := by omega
      have i3 : ¬ n ≤ k := by omega
      have HR : Hid (idxF l x 0 = if y = x then (k : Int) else idxF (l.drop (k + 1)) x (k + 1)) := by
        have e := H.out
        rw [drop_getV hx, idxF] at e
        exact e
      simp only at q1
      clear hc1 hx h H
      by_cases hyx : y = x
      · have HR2 : Hid (idxF l x 0 = (k : Int)) := by show _ = _; rw [HR.out, if_pos hyx]
        subst hyx
        go_wp2
        go_ret
        exact ⟨by rw [HR2.out]; rfl, rfl⟩
      · have HR2 : Hid (idxF l x 0 = idxF (l.drop (k + 1)) x (k + 1)) := by show _ = _; rw [HR.out, if_neg hyx]
        have e1 : ((y : Int) == (x : Int)) = false := by simp; omega
        go_wp2
        go_round
        case rel => exact ⟨k + 1, by omega, by go_num, HR2⟩
        case measure => simp [intOf]; omega
    · obtain rfl : k = n := by omega
      have HR2 : Hid (idxF l x 0 = -1) := by
        have e := H.out
        rw [List.drop_of_length_le (by rw [h.1]; exact Nat.le_refl _)] at e
        exact e
      go_wp2
      go_ret
      exact ⟨by rw [HR2.out]; rfl, rfl⟩

set_option maxRecDepth 100000 in
set_option maxHeartbeats 8000000 in
theorem rputB_any (w : World) (a : Option Addr) (n c x y : Nat) (l : List Pr) (h : PrV w a n c l) (hn : n ≤ 100000) :
    Calls Tryz.prog 47 #[.slice a n c, .agg #[.int .u64 (x : Int), .int .u64 (y : Int)]] w fun e w' => ∃ ad m c' l', e = .returned (.slice ad m c') ∧ PrV w' ad m c' l' ∧ PutR l (x, y) l' ∧ Below w.heap.size w w' ∧ (PairB w a → PairB w' ad) := by
  have hmx : Tryz.prog.follows .mixedOrders = true := by kernel_rfl
  obtain ⟨w0, hw0⟩ : ∃ w0, w0 = w.alloc (.cells #[.int .u64 (x : Int), .int .u64 (y : Int)] 39) := ⟨_, rfl⟩
  have hB0 : Below w.heap.size w w0 := by rw [hw0]; exact (Below.refl _ w).alloc (Nat.le_refl _) _
  have bx0 : BoxV w0 w.heap.size x y := by rw [hw0]; exact BoxV.new w _ _
  have hP := h.kept hB0
  have hf := rfind_any w0 a n c x l hP.prs (by omega)
  have c0 := bx0.cell.1
  have H0 : Hid (Below w.heap.size w w0 ∧ BoxV w0 w.heap.size x y ∧ PrV w0 a n c l) := ⟨hB0, bx0, hP⟩
  clear hB0 bx0 hP
  cases hlk : lookP l x with
  | some z =>
    obtain ⟨j, hj, _⟩ := idxF_some l x 0 z hlk
    rw [hj] at hf
    have i1 : ¬ ((0 + j : Nat) : Int) < 0 := by omega
    have i2 : (0 : Int) ≤ ((0 + j : Nat) : Int) := by omega
    have HP : Hid (PutR l (x, y) l) := .inl ⟨by rw [hlk]; exact (fun h => by cases h), rfl⟩
    rw [hw0] at c0 hf
    clear hlk hj h
    go_enter Tryz.func47, Tryz.ntmps47
    go_wp2_with (go_at_call 46; refine hf.mono ?_; clear hf; rintro e w1 ⟨rfl, hw1⟩; subst hw1)
    go_ret
    rw [← hw0]
    exact ⟨a, n, c, l, rfl, H0.out.2.2, HP.out, H0.out.1, fun hp => hp.kept H0.out.1⟩
  | none =>
    rw [idxF_none l x 0 hlk] at hf
    rw [hw0] at c0 hf
    have HLk : Hid (lookP l x = none) := hlk
    clear hlk
    go_enter Tryz.func47, Tryz.ntmps47
    go_wp2_with (go_at_call 46; refine hf.mono ?_; clear hf; rintro e w1 ⟨rfl, hw1⟩; subst hw1)
    rw [← hw0]
    clear hw0 c0
    have hsw : w.heap.size ≤ w0.heap.size := H0.out.1.size
    have hbl := H0.out.2.1.lt
    go_loopw [5, 6] (fun v i wr => ∃ k : Nat, k ≤ n ∧ i = .int .i64 (k : Int) ∧ Hid (wr.ownsRow (w.heap.size + 1) 39 2 v k (prCells (l.take k)) ∧ Below (w.heap.size + 1) w0 wr ∧ ∀ q ∈ l.take k, q.1 < x)) (fun _ i _ => n - (intOf i).toNat)
    case atStart => exact ⟨0, Nat.zero_le _, rfl, by rw [List.take_zero]; exact World.ownsRow_nil _ _ _ _, Below.refl _ _, by simp⟩
    case round =>
      obtain ⟨k, hk, rfl, H⟩ := hrel
      have hBw : Below w.heap.size w wr := H0.out.1.trans (H.out.2.1.mono (Nat.le_succ _))
      have hP : Prs wr a n l := h.prs.kept hBw
      have hbx : BoxV wr w.heap.size x y := H0.out.2.1.below H.out.2.1 (Nat.lt_succ_self _)
      obtain ⟨cx, cy⟩ := hbx.cell
      have H1 : Hid (wr.ownsRow (w.heap.size + 1) 39 2 u5 k (prCells (l.take k)) ∧ BoxV wr w.heap.size x y ∧ Below w.heap.size w wr ∧ Below (w.heap.size + 1) w0 wr) := ⟨H.out.1, hbx, hBw, H.out.2.1⟩
      by_cases hlt : k < n
      · obtain ⟨⟨px, py⟩, hp⟩ : ∃ x, l[k]? = some x := ⟨_, List.getElem?_eq_getElem (by rw [h.prs.1]; exact hlt)⟩
        obtain ⟨b1, o1, rfl, hc1⟩ := hP.2 (by omega)
        obtain ⟨q1, q2⟩ := hc1 k _ hp
        have i2 : (k : Int) < (n : Int) := by omega
        have i3 : ¬ n ≤ k := by omega
        simp only at q1 q2
        have HT : Hid (l.take (k + 1) = l.take k ++ [(px, py)] ∧ (px < x → ∀ q ∈ l.take (k + 1), q.1 < x) ∧ ((∀ q ∈ l.take k, q.1 < x) ∧ (¬ px < x → ∀ q, l[k]? = some q → ¬ q.1 < x))) := by
          refine ⟨take_getV hp, fun hx q hq => ?_, H.out.2.2, fun hx q hq => ?_⟩
          · rw [take_getV hp] at hq
            rcases List.mem_append.1 hq with hq | hq
            · exact H.out.2.2 q hq
            · rw [List.mem_singleton.1 hq]; exact hx
          · rw [hp] at hq
            cases hq
            exact hx
        clear hc1 hp hP hbx hBw H
        go_upto_region 5 with fail
        refine wp_region_G (S := SB 1000 (fun _ => True) (fun Y => Y.cell? ⟨w.heap.size, 0, none⟩ = some (.int .u64 (x : Int)) ∧ Y.cell? ⟨b1, o1 + k * 2, none⟩ = some (.int .u64 (px : Int)))) hmx ?_
        have hSB : SB 1000 (fun _ => True) (fun Y => Y.cell? ⟨w.heap.size, 0, none⟩ = some (.int .u64 (x : Int)) ∧ Y.cell? ⟨b1, o1 + k * 2, none⟩ = some (.int .u64 (px : Int))) (Array.replicate 14 false) wr.drew := SB.on trivial ⟨cx, q1⟩
        refine wpAnyG_takeP (i := 0) (v := ?_) rfl (by kernel_rfl) (by kernel_rfl) (by kernel_rfl) (fun _ _ _ h => h) rfl (Or.inl ⟨by rfl, ?_⟩) (by assumption) ?_
        rotate_left
        · intro Y _; go_simp; try with_reducible rfl
        intro hSB0
        try simp only [Act.put, List.getElem_toArray, List.getElem_cons_zero, List.setIfInBounds_toArray, List.set_cons_zero, List.set_cons_succ]
        refine wpAnyG_takeP (i := 1) (v := ?_) rfl (by kernel_rfl) (by kernel_rfl) (by kernel_rfl) (fun _ _ _ h => h) rfl (Or.inl ⟨by rfl, ?_⟩) (by assumption) ?_
        rotate_left
        · intro Y _; go_simp; try with_reducible rfl
        intro hSB1
        try simp only [Act.put, List.getElem_toArray, List.getElem_cons_zero, List.getElem_cons_succ, List.setIfInBounds_toArray, List.set_cons_zero, List.set_cons_succ]
        refine wpAnyG_takeP (i := 2) (v := ?_) rfl (by kernel_rfl) (by kernel_rfl) (by kernel_rfl) (fun _ _ _ h => h) rfl (Or.inl ⟨by rfl, ?_⟩) (by assumption) ?_
        rotate_left
        · intro Y _; go_simp; try with_reducible rfl
        intro hSB2
        try simp only [Act.put, List.getElem_toArray, List.getElem_cons_zero, List.getElem_cons_succ, List.setIfInBounds_toArray, List.set_cons_zero, List.set_cons_succ]
        refine wpAnyG_takeP (i := 3) (v := ?_) rfl (by kernel_rfl) (by kernel_rfl) (by kernel_rfl) (fun _ _ _ h => h) rfl (Or.inl ⟨by rfl, ?_⟩) (by assumption) ?_
        rotate_left
        · intro Y _; go_simp; try with_reducible rfl
        intro hSB3
        try simp only [Act.put, List.getElem_toArray, List.getElem_cons_zero, List.getElem_cons_succ, List.setIfInBounds_toArray, List.set_cons_zero, List.set_cons_succ]
        refine wpAnyG_takeP (i := 4) (v := ?_) rfl (by kernel_rfl) (by kernel_rfl) (by kernel_rfl) (fun _ _ _ h => h) rfl (Or.inl ⟨by rfl, ?_⟩) (by assumption) ?_
        rotate_left
        · intro Y _; go_simp; try with_reducible rfl
        intro hSB4
        try simp only [Act.put, List.getElem_toArray, List.getElem_cons_zero, List.getElem_cons_succ, List.setIfInBounds_toArray, List.set_cons_zero, List.set_cons_succ]
        refine wpAnyG_takeP (i := 5) (v := ?_) rfl (by kernel_rfl) (by kernel_rfl) (by kernel_rfl) (fun _ _ _ h => h) rfl (Or.inl ⟨by rfl, ?_⟩) (by assumption) ?_
        rotate_left
        · intro Y _; go_simp; try with_reducible rfl
        intro hSB5
        try simp only [Act.put, List.getElem_toArray, List.getElem_cons_zero, List.getElem_cons_succ, List.setIfInBounds_toArray, List.set_cons_zero, List.set_cons_succ]
        refine wpAnyG_takeP (i := 6) (v := ?_) rfl (by kernel_rfl) (by kernel_rfl) (by kernel_rfl) (fun _ _ _ h => h) rfl (Or.inl ⟨by rfl, ?_⟩) (by assumption) ?_
        rotate_left
        · intro Y _; go_simp; try with_reducible rfl
        intro hSB6
        try simp only [Act.put, List.getElem_toArray, List.getElem_cons_zero, List.getElem_cons_succ, List.setIfInBounds_toArray, List.set_cons_zero, List.set_cons_succ]
        refine wpAnyG_takeP (i := 7) (v := ?_) rfl (by kernel_rfl) (by kernel_rfl) (by kernel_rfl) (fun _ _ _ h => h) rfl (Or.inl ⟨by rfl, ?_⟩) (by assumption) ?_
        rotate_left
        · intro Y _; go_simp; try with_reducible rfl
        intro hSB7
        try simp only [Act.put, List.getElem_toArray, List.getElem_cons_zero, List.getElem_cons_succ, List.setIfInBounds_toArray, List.set_cons_zero, List.set_cons_succ]
        refine wpAnyG_takeP (i := 8) (v := ?_) rfl (by kernel_rfl) (by kernel_rfl) (by kernel_rfl) (fun _ _ _ h => h) rfl (Or.inl ⟨by rfl, ?_⟩) (by assumption) ?_
        rotate_left
        · intro Y _; go_simp; try with_reducible rfl
        intro hSB8
        try simp only [Act.put, List.getElem_toArray, List.getElem_cons_zero, List.getElem_cons_succ, List.setIfInBounds_toArray, List.set_cons_zero, List.set_cons_succ]
        refine wpAnyG_takeP (i := 9) (v := ?_) rfl (by kernel_rfl) (by kernel_rfl) (by kernel_rfl) (fun _ _ _ h => h) rfl (Or.inl ⟨by rfl, ?_⟩) (by assumption) ?_
        rotate_left
        · intro Y hY; obtain ⟨y1, y2⟩ := hY; go_simp; try with_reducible rfl
        intro hSB9
        try simp only [Act.put, List.getElem_toArray, List.getElem_cons_zero, List.getElem_cons_succ, List.setIfInBounds_toArray, List.set_cons_zero, List.set_cons_succ]
        refine wpAnyG_takeP (i := 10) (v := ?_) rfl (by kernel_rfl) (by kernel_rfl) (by kernel_rfl) (fun _ _ _ h => h) rfl (Or.inl ⟨by rfl, ?_⟩) (by assumption) ?_
        rotate_left
        · intro Y _; go_simp; try with_reducible rfl
        intro hSB10
        try simp only [Act.put, List.getElem_toArray, List.getElem_cons_zero, List.getElem_cons_succ, List.setIfInBounds_toArray, List.set_cons_zero, List.set_cons_succ]
        refine wpAnyG_takeP (i := 11) (v := ?_) rfl (by kernel_rfl) (by kernel_rfl) (by kernel_rfl) (fun _ _ _ h => h) rfl (Or.inl ⟨by rfl, ?_⟩) (by assumption) ?_
        rotate_left
        · intro Y hY; obtain ⟨y1, y2⟩ := hY; go_simp; try with_reducible rfl
        intro hSB11
        try simp only [Act.put, List.getElem_toArray, List.getElem_cons_zero, List.getElem_cons_succ, List.setIfInBounds_toArray, List.set_cons_zero, List.set_cons_succ]
        refine wpAnyG_takeP (i := 12) (v := ?_) rfl (by kernel_rfl) (by kernel_rfl) (by kernel_rfl) (fun _ _ _ h => h) rfl (Or.inl ⟨by rfl, ?_⟩) (by assumption) ?_
        rotate_left
        · intro Y _; go_simp; try with_reducible rfl
        intro hSB12
        try simp only [Act.put, List.getElem_toArray, List.getElem_cons_zero, List.getElem_cons_succ, List.setIfInBounds_toArray, List.set_cons_zero, List.set_cons_succ]
        refine wpAnyG_takeP (i := 13) (v := ?_) rfl (by kernel_rfl) (by kernel_rfl) (by kernel_rfl) (fun _ _ _ h => h) rfl (Or.inl ⟨by rfl, ?_⟩) (by assumption) ?_
        rotate_left
        · intro Y _; go_simp; try with_reducible rfl
        intro hSB13
        try simp only [Act.put, List.getElem_toArray, List.getElem_cons_zero, List.getElem_cons_succ, List.setIfInBounds_toArray, List.set_cons_zero, List.set_cons_succ]
        refine wpAnyG_done (by kernel_rfl) ?_ _
        clear hSB hSB0 hSB1 hSB2 hSB3 hSB4 hSB5 hSB6 hSB7 hSB8 hSB9 hSB10 hSB11 hSB12 hSB13
        by_cases hpx : px < x
        · have i4 : (px : Int) < (x : Int) := by omega
          replace q1 : wr.drew.cell? ⟨b1, o1 + k * 2, none⟩ = some (.int .u64 (px : Int)) := q1
          replace q2 : wr.drew.cell? ⟨b1, o1 + k * 2 + 1, none⟩ = some (.int .u64 (py : Int)) := q2
          have hown9 := row_movedV (W' := wr.drew) H1.out.1 (fun r _ => rfl)
          have H9 : Hid ((wr.drew).ownsRow (w.heap.size + 1) 39 2 u5 k (prCells (l.take k)) ∧ BoxV (wr.drew) w.heap.size x y ∧ Below w.heap.size w (wr.drew) ∧ Below (w.heap.size + 1) w0 (wr.drew)) := ⟨hown9, H1.out.2.1, ⟨H1.out.2.2.1.os, H1.out.2.2.1.tape, H1.out.2.2.1.output, H1.out.2.2.1.size, H1.out.2.2.1.block⟩, ⟨H1.out.2.2.2.os, H1.out.2.2.2.tape, H1.out.2.2.2.output, H1.out.2.2.2.size, H1.out.2.2.2.block⟩⟩
          clear hown9 H1 cx cy
          generalize wr.drew = w5 at *
          obtain ⟨cx5, cy5⟩ := H9.out.2.1.cell
          have hs5 : w.heap.size + 1 ≤ w5.heap.size := H9.out.2.1.lt
          go_wp2_with (at_builtin; refine wpList_appV rfl _ _ rfl (w.heap.size + 1) k 1 1 u5 (l.take k) [(px, py)] (some ⟨w5.heap.size, 0, none⟩) rfl rfl (row_keptV H9.out.1 ((Below.refl _ w5).alloc (Nat.le_refl _) _)) (prs_one w5 px py) (fun e => by cases e) (by omega) (by simp; omega) ?_; intro a6 c6 w6 hc6 hown6 hB6)
          have H6 : Hid (w6.ownsRow (w.heap.size + 1) 39 2 (.slice a6 (k + 1) c6) (k + 1) (prCells (l.take (k + 1))) ∧ Below (w.heap.size + 1) w0 w6 ∧ ∀ q ∈ l.take (k + 1), q.1 < x) := ⟨by rw [HT.out.1]; exact hown6, H9.out.2.2.2.trans (((Below.refl (w.heap.size + 1) w5).alloc hs5 _).trans hB6), HT.out.2.1 hpx⟩
          clear hown6 hB6 H9 cx5 cy5 hs5 hc6
          go_roundw
          case rel => exact ⟨k + 1, by omega, by go_num, H6⟩
          case measure => simp [intOf]; omega
        · have i4 : ¬ (px : Int) < (x : Int) := by omega
          have HS : Hid ((∀ q ∈ l.take k, q.1 < x) ∧ ∀ q, l[k]? = some q → ¬ q.1 < x) := ⟨HT.out.2.2.1, HT.out.2.2.2 hpx⟩
          clear HT
          have hown9 := row_movedV (W' := wr.drew) H1.out.1 (fun r _ => rfl)
          have H9 : Hid ((wr.drew).ownsRow (w.heap.size + 1) 39 2 u5 k (prCells (l.take k)) ∧ BoxV (wr.drew) w.heap.size x y ∧ Below w.heap.size w (wr.drew) ∧ Below (w.heap.size + 1) w0 (wr.drew)) := ⟨hown9, H1.out.2.1, ⟨H1.out.2.2.1.os, H1.out.2.2.1.tape, H1.out.2.2.1.output, H1.out.2.2.1.size, H1.out.2.2.1.block⟩, ⟨H1.out.2.2.2.os, H1.out.2.2.2.tape, H1.out.2.2.2.output, H1.out.2.2.2.size, H1.out.2.2.2.block⟩⟩
          clear hown9 H1 cx cy
          generalize wr.drew = w5 at *
          obtain ⟨cx5, cy5⟩ := H9.out.2.1.cell
          have hs5 : w.heap.size + 1 ≤ w5.heap.size := H9.out.2.1.lt
          have HK5 : Hid (k ≤ n ∧ l.length = n) := ⟨hk, h.prs.1⟩
          go_wp2_with (at_builtin; refine wpList_appV rfl _ _ rfl (w.heap.size + 1) k 1 1 u5 (l.take k) [(x, y)] (some ⟨w5.heap.size, 0, none⟩) rfl rfl (row_keptV H9.out.1 ((Below.refl _ w5).alloc (Nat.le_refl _) _)) (prs_one w5 x y) (fun e => by cases e) (by omega) (by simp; omega) ?_; intro a6 c6 w6 hc6 hown6 hB6)
          have H6 : Hid (w6.ownsRow (w.heap.size + 1) 39 2 (.slice a6 (k + 1) c6) (k + 1) (prCells (l.take k ++ [(x, y)] ++ (l.drop k).take 0)) ∧ Below w.heap.size w w6 ∧ w.heap.size + 1 ≤ w6.heap.size) := ⟨by rw [List.take_zero, List.append_nil]; exact hown6, H9.out.2.2.1.trans ((((Below.refl (w.heap.size + 1) w5).alloc hs5 _).trans hB6).mono (Nat.le_succ _)), Nat.le_trans hs5 (((Below.refl (w.heap.size + 1) w5).alloc hs5 _).trans hB6).size⟩
          clear hown6 hB6 H9 cx5 cy5 hs5 hc6
          go_loopw [5, 6] (fun v i wr => ∃ j : Nat, k + j ≤ n ∧ i = .int .i64 ((k + j : Nat) : Int) ∧ Hid (wr.ownsRow (w.heap.size + 1) 39 2 v (k + 1 + j) (prCells (l.take k ++ [(x, y)] ++ (l.drop k).take j)) ∧ Below w.heap.size w wr ∧ w.heap.size + 1 ≤ wr.heap.size)) (fun _ i _ => n - (intOf i).toNat)
          case atStart => exact ⟨0, by omega, rfl, H6⟩
          case round =>
            clear H6
            obtain ⟨j, hj, rfl, G⟩ := hrel
            by_cases hlt2 : k + j < n
            · obtain ⟨⟨rx, ry⟩, hr⟩ : ∃ x, l[k + j]? = some x := ⟨_, List.getElem?_eq_getElem (by rw [h.prs.1]; exact hlt2)⟩
              obtain ⟨b2, o2, e2, hc2⟩ := (h.prs.kept G.out.2.1).2 (by omega)
              first | subst e2 | (cases e2)
              obtain ⟨t1, t2⟩ := hc2 (k + j) _ hr
              have j2 : ((k + j : Nat) : Int) < (n : Int) := by omega
              have j3 : ¬ n ≤ k + j := by omega
              have HT2 : Hid ((l.drop k).take (j + 1) = (l.drop k).take j ++ [(rx, ry)]) := by
                show _ = _
                rw [List.take_add_one, List.getElem?_drop, hr]
                try rfl
              simp only at t1 t2
              have hg5 := G.out.2.2
              clear hc2 hr
              go_wp2_with (at_builtin; refine wpList_appV rfl _ _ rfl (w.heap.size + 1) (k + 1 + j) 1 1 _ _ [(rx, ry)] (some ⟨wr.heap.size, 0, none⟩) rfl rfl (row_keptV G.out.1 ((Below.refl _ wr).alloc (Nat.le_refl _) _)) (prs_one wr rx ry) (fun e => by cases e) (by omega) (by simp; omega) ?_; intro a7 c7 w7 hc7 hown7 hB7)
              have H7 : Hid (w7.ownsRow (w.heap.size + 1) 39 2 (.slice a7 (k + 1 + j + 1) c7) (k + 1 + (j + 1)) (prCells (l.take k ++ [(x, y)] ++ (l.drop k).take (j + 1))) ∧ Below w.heap.size w w7 ∧ w.heap.size + 1 ≤ w7.heap.size) := ⟨by rw [HT2.out, ← List.append_assoc]; exact hown7, G.out.2.1.trans ((((Below.refl (w.heap.size + 1) wr).alloc hg5 _).trans hB7).mono (Nat.le_succ _)), Nat.le_trans hg5 (((Below.refl (w.heap.size + 1) wr).alloc hg5 _).trans hB7).size⟩
              clear hown7 hB7 G t1 t2
              go_roundw
              case rel => exact ⟨j + 1, by omega, by go_num, H7⟩
              case measure => simp [intOf]; omega
            · obtain ⟨a8, c8, rfl, hpv, hl8⟩ := own_prv G.out.1
              have HZ : Hid (PrV wr a8 (k + 1 + j) c8 (l.take k ++ [(x, y)] ++ (l.drop k).take j) ∧ Below w.heap.size w wr ∧ PairB wr a8) := ⟨hpv, G.out.2.1, PairB.own G.out.1⟩
              have hjn : ¬ ((k + j : Nat) : Int) < (n : Int) := by omega
              have HJ : Hid (l.take k ++ [(x, y)] ++ (l.drop k).take j = l.take k ++ (x, y) :: l.drop k) := by
                show _ = _
                rw [List.take_of_length_le (l := l.drop k) (by rw [List.length_drop, HK5.out.2]; omega), List.append_assoc]
                rfl
              clear hpv hl8 G
              go_wp2
              go_ret
              rw [HJ.out] at HZ
              exact ⟨a8, _, c8, rfl, _, HZ.out.1, .inr ⟨HLk.out, k, by rw [HK5.out.2]; exact HK5.out.1, rfl, HS.out.1, HS.out.2⟩, HZ.out.2.1, fun _ => HZ.out.2.2⟩
      · obtain rfl : k = n := by omega
        have HS : Hid ((∀ q ∈ l.take k, q.1 < x) ∧ ∀ q, l[k]? = some q → ¬ q.1 < x) := ⟨H.out.2.2, fun q hq => by have := (List.getElem?_eq_some_iff.1 hq).1; rw [h.prs.1] at this; omega⟩
        clear hP hbx hBw H
        go_upto_region 5 with fail
        refine wp_region_G (S := SB 1000 (fun _ => True) (fun _ => True)) hmx ?_
        have hSB : SB 1000 (fun _ => True) (fun _ => True) (Array.replicate 14 false) wr.drew := SB.on trivial trivial
        refine wpAnyG_takeP (i := 0) (v := ?_) rfl (by kernel_rfl) (by kernel_rfl) (by kernel_rfl) (fun _ _ _ h => h) rfl (Or.inl ⟨by rfl, ?_⟩) (by assumption) ?_
        rotate_left
        · intro Y _; go_simp; try with_reducible rfl
        intro hSB0
        try simp only [Act.put, List.getElem_toArray, List.getElem_cons_zero, List.setIfInBounds_toArray, List.set_cons_zero, List.set_cons_succ]
        refine wpAnyG_takeP (i := 1) (v := ?_) rfl (by kernel_rfl) (by kernel_rfl) (by kernel_rfl) (fun _ _ _ h => h) rfl (Or.inl ⟨by rfl, ?_⟩) (by assumption) ?_
        rotate_left
        · intro Y _; go_simp; try with_reducible rfl
        intro hSB1
        try simp only [Act.put, List.getElem_toArray, List.getElem_cons_zero, List.getElem_cons_succ, List.setIfInBounds_toArray, List.set_cons_zero, List.set_cons_succ]
        refine wpAnyG_takeP (i := 2) (v := ?_) rfl (by kernel_rfl) (by kernel_rfl) (by kernel_rfl) (fun _ _ _ h => h) rfl (Or.inl ⟨by rfl, ?_⟩) (by assumption) ?_
        rotate_left
        · intro Y _; go_simp; try with_reducible rfl
        intro hSB2
        try simp only [Act.put, List.getElem_toArray, List.getElem_cons_zero, List.getElem_cons_succ, List.setIfInBounds_toArray, List.set_cons_zero, List.set_cons_succ]
        refine wpAnyG_takeP (i := 3) (v := ?_) rfl (by kernel_rfl) (by kernel_rfl) (by kernel_rfl) (fun _ _ _ h => h) rfl (Or.inl ⟨by rfl, ?_⟩) (by assumption) ?_
        rotate_left
        · intro Y _; go_simp; try with_reducible rfl
        intro hSB3
        try simp only [Act.put, List.getElem_toArray, List.getElem_cons_zero, List.getElem_cons_succ, List.setIfInBounds_toArray, List.set_cons_zero, List.set_cons_succ]
        refine wpAnyG_takeP (i := 4) (v := ?_) rfl (by kernel_rfl) (by kernel_rfl) (by kernel_rfl) (fun _ _ _ h => h) rfl (Or.inl ⟨by rfl, ?_⟩) (by assumption) ?_
        rotate_left
        · intro Y _; go_simp; try with_reducible rfl
        intro hSB4
        try simp only [Act.put, List.getElem_toArray, List.getElem_cons_zero, List.getElem_cons_succ, List.setIfInBounds_toArray, List.set_cons_zero, List.set_cons_succ]
        refine wpAnyG_takeP (i := 5) (v := undef) rfl (by kernel_rfl) (by kernel_rfl) (by kernel_rfl) (fun _ _ _ h => h) rfl (Or.inr ⟨by rfl, rfl⟩) (by assumption) ?_
        intro hSB5
        try simp only [Act.put, List.getElem_toArray, List.getElem_cons_zero, List.getElem_cons_succ, List.setIfInBounds_toArray, List.set_cons_zero, List.set_cons_succ]
        refine wpAnyG_takeP (i := 6) (v := undef) rfl (by kernel_rfl) (by kernel_rfl) (by kernel_rfl) (fun _ _ _ h => h) rfl (Or.inr ⟨by rfl, rfl⟩) (by assumption) ?_
        intro hSB6
        try simp only [Act.put, List.getElem_toArray, List.getElem_cons_zero, List.getElem_cons_succ, List.setIfInBounds_toArray, List.set_cons_zero, List.set_cons_succ]
        refine wpAnyG_takeP (i := 7) (v := undef) rfl (by kernel_rfl) (by kernel_rfl) (by kernel_rfl) (fun _ _ _ h => h) rfl (Or.inr ⟨by rfl, rfl⟩) (by assumption) ?_
        intro hSB7
        try simp only [Act.put, List.getElem_toArray, List.getElem_cons_zero, List.getElem_cons_succ, List.setIfInBounds_toArray, List.set_cons_zero, List.set_cons_succ]
        refine wpAnyG_takeP (i := 8) (v := undef) rfl (by kernel_rfl) (by kernel_rfl) (by kernel_rfl) (fun _ _ _ h => h) rfl (Or.inr ⟨by rfl, rfl⟩) (by assumption) ?_
        intro hSB8
        try simp only [Act.put, List.getElem_toArray, List.getElem_cons_zero, List.getElem_cons_succ, List.setIfInBounds_toArray, List.set_cons_zero, List.set_cons_succ]
        refine wpAnyG_takeP (i := 9) (v := undef) rfl (by kernel_rfl) (by kernel_rfl) (by kernel_rfl) (fun _ _ _ h => h) rfl (Or.inr ⟨by rfl, rfl⟩) (by assumption) ?_
        intro hSB9
        try simp only [Act.put, List.getElem_toArray, List.getElem_cons_zero, List.getElem_cons_succ, List.setIfInBounds_toArray, List.set_cons_zero, List.set_cons_succ]
        refine wpAnyG_takeP (i := 10) (v := undef) rfl (by kernel_rfl) (by kernel_rfl) (by kernel_rfl) (fun _ _ _ h => h) rfl (Or.inr ⟨by rfl, rfl⟩) (by assumption) ?_
        intro hSB10
        try simp only [Act.put, List.getElem_toArray, List.getElem_cons_zero, List.getElem_cons_succ, List.setIfInBounds_toArray, List.set_cons_zero, List.set_cons_succ]
        refine wpAnyG_takeP (i := 11) (v := undef) rfl (by kernel_rfl) (by kernel_rfl) (by kernel_rfl) (fun _ _ _ h => h) rfl (Or.inr ⟨by rfl, rfl⟩) (by assumption) ?_
        intro hSB11
        try simp only [Act.put, List.getElem_toArray, List.getElem_cons_zero, List.getElem_cons_succ, List.setIfInBounds_toArray, List.set_cons_zero, List.set_cons_succ]
        refine wpAnyG_takeP (i := 12) (v := undef) rfl (by kernel_rfl) (by kernel_rfl) (by kernel_rfl) (fun _ _ _ h => h) rfl (Or.inr ⟨by rfl, rfl⟩) (by assumption) ?_
        intro hSB12
        try simp only [Act.put, List.getElem_toArray, List.getElem_cons_zero, List.getElem_cons_succ, List.setIfInBounds_toArray, List.set_cons_zero, List.set_cons_succ]
        refine wpAnyG_takeP (i := 13) (v := ?_) rfl (by kernel_rfl) (by kernel_rfl) (by kernel_rfl) (fun _ _ _ h => h) rfl (Or.inl ⟨by rfl, ?_⟩) (by assumption) ?_
        rotate_left
        · intro Y _; go_simp; try with_reducible rfl
        intro hSB13
        try simp only [Act.put, List.getElem_toArray, List.getElem_cons_zero, List.getElem_cons_succ, List.setIfInBounds_toArray, List.set_cons_zero, List.set_cons_succ]
        refine wpAnyG_done (by kernel_rfl) ?_ _
        clear hSB hSB0 hSB1 hSB2 hSB3 hSB4 hSB5 hSB6 hSB7 hSB8 hSB9 hSB10 hSB11 hSB12 hSB13
        have hown9 := row_movedV (W' := wr.drew) H1.out.1 (fun r _ => rfl)
        have H9 : Hid ((wr.drew).ownsRow (w.heap.size + 1) 39 2 u5 k (prCells (l.take k)) ∧ BoxV (wr.drew) w.heap.size x y ∧ Below w.heap.size w (wr.drew) ∧ Below (w.heap.size + 1) w0 (wr.drew)) := ⟨hown9, H1.out.2.1, ⟨H1.out.2.2.1.os, H1.out.2.2.1.tape, H1.out.2.2.1.output, H1.out.2.2.1.size, H1.out.2.2.1.block⟩, ⟨H1.out.2.2.2.os, H1.out.2.2.2.tape, H1.out.2.2.2.output, H1.out.2.2.2.size, H1.out.2.2.2.block⟩⟩
        clear hown9 H1 cx cy
        generalize wr.drew = w5 at *
        obtain ⟨cx5, cy5⟩ := H9.out.2.1.cell
        have hs5 : w.heap.size + 1 ≤ w5.heap.size := H9.out.2.1.lt
        have HK5 : Hid (k ≤ k ∧ l.length = k) := ⟨hk, h.prs.1⟩
        go_wp2_with (at_builtin; refine wpList_appV rfl _ _ rfl (w.heap.size + 1) k 1 1 u5 (l.take k) [(x, y)] (some ⟨w5.heap.size, 0, none⟩) rfl rfl (row_keptV H9.out.1 ((Below.refl _ w5).alloc (Nat.le_refl _) _)) (prs_one w5 x y) (fun e => by cases e) (by omega) (by simp; omega) ?_; intro a6 c6 w6 hc6 hown6 hB6)
        have H6 : Hid (w6.ownsRow (w.heap.size + 1) 39 2 (.slice a6 (k + 1) c6) (k + 1) (prCells (l.take k ++ [(x, y)] ++ (l.drop k).take 0)) ∧ Below w.heap.size w w6 ∧ w.heap.size + 1 ≤ w6.heap.size) := ⟨by rw [List.take_zero, List.append_nil]; exact hown6, H9.out.2.2.1.trans ((((Below.refl (w.heap.size + 1) w5).alloc hs5 _).trans hB6).mono (Nat.le_succ _)), Nat.le_trans hs5 (((Below.refl (w.heap.size + 1) w5).alloc hs5 _).trans hB6).size⟩
        clear hown6 hB6 H9 cx5 cy5 hs5 hc6
        go_loopw [5, 6] (fun v i wr => ∃ j : Nat, k + j ≤ k ∧ i = .int .i64 ((k + j : Nat) : Int) ∧ Hid (wr.ownsRow (w.heap.size + 1) 39 2 v (k + 1 + j) (prCells (l.take k ++ [(x, y)] ++ (l.drop k).take j)) ∧ Below w.heap.size w wr ∧ w.heap.size + 1 ≤ wr.heap.size)) (fun _ i _ => k - (intOf i).toNat)
        case atStart => exact ⟨0, by omega, rfl, H6⟩
        case round =>
          clear H6
          obtain ⟨j, hj, rfl, G⟩ := hrel
          by_cases hlt2 : k + j < k
          · omega
          · obtain ⟨a8, c8, rfl, hpv, hl8⟩ := own_prv G.out.1
            have HZ : Hid (PrV wr a8 (k + 1 + j) c8 (l.take k ++ [(x, y)] ++ (l.drop k).take j) ∧ Below w.heap.size w wr ∧ PairB wr a8) := ⟨hpv, G.out.2.1, PairB.own G.out.1⟩
            have hjn : ¬ ((k + j : Nat) : Int) < (k : Int) := by omega
            have HJ : Hid (l.take k ++ [(x, y)] ++ (l.drop k).take j = l.take k ++ (x, y) :: l.drop k) := by
              show _ = _
              rw [List.take_of_length_le (l := l.drop k) (by rw [List.length_drop, HK5.out.2]; omega), List.append_assoc]
              rfl
            clear hpv hl8 G
            go_wp2
            go_ret
            rw [HJ.out] at HZ
            exact ⟨a8, _, c8, rfl, _, HZ.out.1, .inr ⟨HLk.out, k, by rw [HK5.out.2]; exact HK5.out.1, rfl, HS.out.1, HS.out.2⟩, HZ.out.2.1, fun _ => HZ.out.2.2⟩
theorem rput_any (w : World) (a : Option Addr) (n c x y : Nat) (l : List Pr) (h : PrV w a n c l) (hn : n ≤ 100000) :
    Calls Tryz.prog 47 #[.slice a n c, .agg #[.int .u64 (x : Int), .int .u64 (y : Int)]] w fun e w' => ∃ ad m c' l', e = .returned (.slice ad m c') ∧ PrV w' ad m c' l' ∧ PutR l (x, y) l' ∧ Below w.heap.size w w' := by
  refine (rputB_any w a n c x y l h hn).mono ?_
  rintro e w' ⟨ad, m, c', l', he, h1, h2, h3, _⟩
  exact ⟨ad, m, c', l', he, h1, h2, h3⟩
end Go.Proofs.YtdjodigimhgklaaGreatDoor

/- Steps of regions that draw: two that may come up; one pair appended. -/
namespace Go.Proofs.YtdjodigimhgklaaGreatDoor
open Go.RowKit Go.Shelf Go.Maps

attribute [local go_sem] Oper.semAt_some

section
variable {P : Program} {ops : Array Oper} {Q : Exit → Act → World → Prop} {md : Region.Mode} {S : Array Bool → World → Prop}
theorem wpAnyG_two {i j : Nat} {oi oj : Oper} {fuel : Nat} {listed : Array Bool} {a : Act} {w : World} (hr : Region.ready md ops listed = [i, j]) (hi : ops[i]? = some oi) (hj : ops[j]? = some oj)
    (h1 : ∀ K' : Act → World → Prop, Shut (∀ a w, S (listed.setIfInBounds i true) w → (S (listed.setIfInBounds i true) w → wpAnyG P md ops Q S fuel (listed.setIfInBounds i true) a w) → K' a w) → if Region.wanted oi (yielded ops a.tmps) = true then Oper.wp P oi a w K' Q else K' (a.put oi.dst undef) w)
    (h2 : ∀ K' : Act → World → Prop, Shut (∀ a w, S (listed.setIfInBounds j true) w → (S (listed.setIfInBounds j true) w → wpAnyG P md ops Q S fuel (listed.setIfInBounds j true) a w) → K' a w) → if Region.wanted oj (yielded ops a.tmps) = true then Oper.wp P oj a w K' Q else K' (a.put oj.dst undef) w) : wpAnyG P md ops Q S (fuel + 1) listed a w :=
  wpAnyG_ready hr (by simp) fun q hq => by
    simp at hq
    rcases hq with rfl | rfl
    · exact wpOp_step hi (fun K' hK => h1 K' (fun a w hS hW => hK a w ⟨hS, hW hS⟩))
    · exact wpOp_step hj (fun K' hK => h2 K' (fun a w hS hW => hK a w ⟨hS, hW hS⟩))
end
theorem vstep_appP (w : World) {ops : Array Oper} {o : Oper} {a : Act} {K : Act → World → Prop} {Q : Exit → Act → World → Prop} {E : Prop} (hgd : o.guard = none) (s x : Operand)
    (ho : o.op = .call { callee := .builtin .append, args := #[s, x], argTypes := #[36, 36] }) (base n : Nat) (hbase : base ≤ w.heap.size)
    (v : Value) (k : List Pr) (hs : a.eval s = v) (hown : w.ownsRow base 39 2 v n (prCells k)) (g : Nat) (p : Pr) (hx : a.eval x = .slice (some ⟨g, 0, none⟩) 1 1) (hb : Prs w (some ⟨g, 0, none⟩) 1 [p]) (hm : (n + 1) * 16 ≤ 140737488355328)
    (hK : ∀ ad' c' w', w'.ownsRow base 39 2 (.slice ad' (n + 1) c') (n + 1) (prCells (k ++ [p])) → Below base w w' → K (a.put o.dst (.slice ad' (n + 1) c')) w') :
    if Region.wanted o (yielded ops a.tmps) = true then Oper.wp Tryz.prog o a w K Q else E := by
  have hw : Region.wanted o (yielded ops a.tmps) = true := by simp [Region.wanted, hgd]
  rw [if_pos hw]
  obtain ⟨i0, hi, hz0, hz1, hz2⟩ := info_parts infoPr
  obtain ⟨b, off, e, hc⟩ := hb.2 (by omega)
  cases e
  obtain ⟨v', w', hr, h2, h3, h4, h5⟩ := run_append_own_at (P := Tryz.prog) w base 36 o.type 39 i0 _ 2 16 Tryz.underlying36 hi hz0 hz1 hz2 rfl (by omega) v n _ hown ⟨g, 0, none⟩ 1 1 (prCells [p]) (by rw [prCells_len]; rfl) (fun j u hj => by rw [Addr.add_lit]; exact prs_news [p] 0 hc j u hj) (prCells_one [p]) (by unfold maxLen; omega) hm hbase
  obtain ⟨ad', c', rfl, hc', _⟩ := row_shapeV h2
  unfold Oper.wp execOp
  simp only [ho, resolve, invoke, builtin, Sem.run_bind, Sem.run_pure, Result.andThen_ok, List.map_toArray, List.map_cons, List.map_nil, hs, hx, hr]
  exact hK ad' c' w' (by rw [prCells_append]; exact h2) ((Below.refl base w).grown h3 hbase (fun k hk => (hown.lt k hk).1))
end Go.Proofs.YtdjodigimhgklaaGreatDoor
