import Derived.Test.YtdjodigimhgklaaGreatDoorMD18
import Derived.Test.YtdjodigimhgklaaGreatDoorMD19
/- What Each tells: the pairs, in order. -/
namespace Go.Proofs.YtdjodigimhgklaaGreatDoor
open Go.RowKit Go.Shelf Go.Maps

attribute [local go_sem] Oper.semAt_some

/-- the pairs that Each tells of bytes -/
def eachL (b : List UInt8) : List Pr := (pairsR b).getD []
/-- what Each's closure holds -/
structure EachAt (w : World) (Bx G : Nat) (v : Value) (L : List Pr) : Prop where
  box : Boxed w Bx 36 v
  glt : G < w.heap.size
  row : (L = [] ∧ v = .slice none 0 0) ∨ (v = .slice (some ⟨G, 0, none⟩) L.length L.length ∧ RowV w G L)
  len : L.length ≤ 65536
theorem EachAt.kept {w w' : World} {Bx G : Nat} {v : Value} {L : List Pr} (h : EachAt w Bx G v L) (hs : w.heap.size ≤ w'.heap.size) (h1 : w'.heap[Bx]? = w.heap[Bx]?) (h2 : w'.heap[G]? = w.heap[G]?) : EachAt w' Bx G v L :=
  ⟨h1.trans h.box, Nat.lt_of_lt_of_le h.glt hs, h.row.imp id (fun ⟨e, r⟩ => ⟨e, h2.trans r⟩), h.len⟩
theorem EachAt.below {w w' : World} {Bx G : Nat} {v : Value} {L : List Pr} (h : EachAt w Bx G v L) (hB : Below w.heap.size w w') : EachAt w' Bx G v L :=
  h.kept hB.size (hB.block _ h.box.lt) (hB.block _ h.glt)

set_option maxHeartbeats 1000000 in
theorem veach_any (w : World) (a : Option Addr) (n c : Nat) (b : List UInt8) (hb : Bytes w a n b) (hnil : a = none → n = 0) (hcap : n ≤ c) (hn : n ≤ 1000000000) :
    Calls Tryz.prog 87 #[.slice a n c] w fun e w' => ∃ Bx G v, e = .returned (.func (.func 130) #[] #[.pointer (some ⟨Bx, 0, none⟩)]) ∧ EachAt w' Bx G v (eachL b) ∧ w.heap.size ≤ Bx ∧ w.heap.size ≤ G ∧ Below w.heap.size w w' := by
  have hp := pairs_any w a n c b hb hnil hcap hn
  go_enter Tryz.func87, Tryz.ntmps87
  go_wp2_with fail
  refine hp.mono ?_
  rintro e w1 ⟨v, er, rfl, hE, hB⟩
  rcases hE with ⟨h1, rfl, rfl⟩ | ⟨l, G, h1, rfl, rfl, hG, hR⟩
  · have HB : Hid (Below w.heap.size w w1 ∧ eachL b = []) := ⟨hB, by unfold eachL; rw [h1]; rfl⟩
    clear h1 hB hp
    go_wp2
    go_ret
    refine ⟨w1.heap.size, w1.heap.size, .slice none 0 0, rfl, ⟨Boxed.new w1 _ _, by simp, .inl ⟨HB.out.2, rfl⟩, by rw [HB.out.2]; exact Nat.zero_le _⟩, HB.out.1.size, HB.out.1.size, HB.out.1.alloc HB.out.1.size _⟩
  · have HB : Hid (Below w.heap.size w w1 ∧ eachL b = l ∧ w.heap.size ≤ G ∧ RowV w1 G l ∧ l.length ≤ 65536) := ⟨hB, by unfold eachL; rw [h1]; rfl, hG, hR, (pairs_good h1).1.len⟩
    clear h1 hB hR hG hp
    go_wp2
    go_ret
    have hs := HB.out.1.size
    refine ⟨w1.heap.size, G, .slice (some ⟨G, 0, none⟩) l.length l.length, rfl, ?_, hs, HB.out.2.2.1, HB.out.1.alloc hs _⟩
    rw [HB.out.2.1]
    exact ⟨Boxed.new w1 _ _, by have := HB.out.2.2.2.1.lt; simp; omega, .inr ⟨rfl, HB.out.2.2.2.1.below ((Below.refl _ w1).alloc (Nat.le_refl _) _) HB.out.2.2.2.1.lt⟩, HB.out.2.2.2.2⟩

abbrev prE (x : Pr) : Array Value := #[.agg #[.int .u64 (x.1 : Int), .int .u64 (x.2 : Int)]]
set_option maxRecDepth 100000 in
set_option maxHeartbeats 4000000 in
theorem veach_tells (w : World) (Bx G : Nat) (v : Value) (L : List Pr) (h : EachAt w Bx G v L) (n : Nat) (hn : 1 ≤ n) :
    TellsB Fence.wide n Tryz.prog 130 #[.pointer (some ⟨Bx, 0, none⟩)] prE (fun pre x _ => L[pre.length]? = some x) (fun k => k = Bx ∨ k = G) (fun xs => xs = L) w := by
  intro l J Jx W hW hJg hJxg hY h0
  have hE := h.below hW
  obtain ⟨ad, cp, rfl, had⟩ : ∃ ad cp, v = .slice ad L.length cp ∧ (L.length = 0 ∨ ad = some ⟨G, 0, none⟩) := by
    rcases h.row with ⟨e, e2⟩ | ⟨e, _⟩
    · exact ⟨none, 0, by rw [e2, e]; rfl, .inl (by rw [e]; rfl)⟩
    · exact ⟨_, _, e, .inr rfl⟩
  have HE : Hid (EachAt W Bx G (.slice ad L.length cp) L) := hE
  have HY : Hid (∀ pre x W1, J pre W1 → L[pre.length]? = some x → YieldAt Fence.wide (n - 1) Tryz.prog l (prE x) W1 fun e W' => (e = .returned (.bool true) ∧ J (pre ++ [x]) W' ∧ Keep (fun k => k = Bx ∨ k = G) W1 W') ∨ (e = .returned (.bool false) ∧ Jx (pre ++ [x]) W')) := hY
  have H0 : Hid (J [] W ∧ (∀ s X Y, J s X → X.grownBy Y none → J s Y)) := ⟨h0, hJg⟩
  have cB := hE.box.cell
  obtain ⟨N, hN⟩ : ∃ N, N = L.length := ⟨_, rfl⟩
  have HN : Hid (N = L.length ∧ N ≤ 65536) := ⟨hN, by rw [hN]; exact h.len⟩
  rw [← hN] at cB had
  have hN2 : N ≤ 65536 := by rw [hN]; exact h.len
  have HAd : Hid (N = 0 ∨ ad = some ⟨G, 0, none⟩) := had
  clear hN hY h0 hJg hJxg h hW hE had
  refine callsIn_of_wp Tryz.func130 rfl trivial ?_ rfl
  simp only [Tryz.ntmps130, List.size_toArray, List.length_cons, List.length_nil, Nat.reduceAdd, Nat.reduceSub, Array.replicate_succ, Array.replicate_zero, List.push_toArray, List.append_toArray, List.nil_append, List.cons_append]
  gi_wp2
  gi_loopw [7] (fun i wr => ∃ (k : Nat), k ≤ N ∧ i = .int .i64 (k : Int) ∧ Hid (J (L.take k) wr ∧ Keep (fun k => k = Bx ∨ k = G) W wr)) (fun i _ => N - (intOf i).toNat)
  case atStart => exact ⟨0, Nat.zero_le _, rfl, by rw [List.take_zero]; exact H0.out.1, Keep.refl _ _⟩
  case round =>
    obtain ⟨k, hk, rfl, H⟩ := hrel
    by_cases hlt : k < N
    · obtain ⟨⟨x, y⟩, hx⟩ : ∃ x, L[k]? = some x := ⟨_, List.getElem?_eq_getElem (by rw [← HN.out.1]; exact hlt)⟩
      obtain rfl := HAd.out.resolve_left (by omega)
      have hrow : RowV wr G L := by
        rcases HE.out.row with ⟨e, _⟩ | ⟨_, r⟩
        · rw [e] at hx; simp at hx
        · exact (H.out.2.2 G (.inr rfl)).trans r
      obtain ⟨q1, q2⟩ := hrow.cell hx
      have i5 : (k : Int) < (N : Int) := by omega
      have HT : Hid (L.take k ++ [(x, y)] = L.take (k + 1)) := (by rw [List.take_add_one, hx]; rfl : L.take k ++ [(x, y)] = L.take (k + 1))
      have hga : wr.grownBy (wr.alloc (.cells #[.int .u64 (x : Int), .int .u64 (y : Int)] 39)) none := World.grownBy_alloc wr _ none
      have hY1 := HY.out (L.take k) (x, y) _ (H0.out.2 _ _ _ H.out.1 hga) (by rw [List.length_take, Nat.min_eq_left (by rw [← HN.out.1]; exact hk)]; exact hx)
      have HK : Hid (Keep (fun k => k = Bx ∨ k = G) W (wr.alloc (.cells #[.int .u64 (x : Int), .int .u64 (y : Int)] 39))) := H.out.2.trans ⟨hga.size, fun j hj => hga.block j (by
        have h1 := H.out.2.1
        rcases hj with rfl | rfl
        · exact Nat.lt_of_lt_of_le HE.out.box.lt h1
        · exact Nat.lt_of_lt_of_le HE.out.glt h1) (by simp)⟩
      clear hx hrow hga
      obtain ⟨fn, tmps, assign, body, hy, hR⟩ := hY1
      simp only [prE] at hy q1 q2
      gi_wp2_with fail
      refine hR.mono ?_
      clear hR
      rintro e W3 (⟨rfl, hJ3, hk3⟩ | ⟨rfl, hJ3⟩)
      · have HF : Hid (J (L.take (k + 1)) W3 ∧ Keep (fun k => k = Bx ∨ k = G) W W3) := ⟨by rw [← HT.out]; exact hJ3, HK.out.trans hk3⟩
        clear hJ3 hk3 hy
        gi_wp2
        go_roundw
        case rel => exact ⟨k + 1, by omega, by go_num, HF⟩
        case measure => simp [intOf]; omega
      · have HF : Hid (Jx (L.take k ++ [(x, y)]) W3) := hJ3
        clear hJ3 hy
        gi_wp2
        refine bodyPost_ret (results_none rfl _ _ _) rfl ?_
        exact ⟨⟨_, rfl⟩, .inr ⟨_, HF.out⟩⟩
    · obtain rfl : k = N := by omega
      have HJ : Hid (J L wr) := (by have := H.out.1; rwa [List.take_of_length_le (by rw [← HN.out.1]; exact Nat.le_refl _)] at this : J L wr)
      gi_wp2
      go_end0
      exact ⟨⟨_, rfl⟩, .inl ⟨L, rfl, HJ.out⟩⟩
end Go.Proofs.YtdjodigimhgklaaGreatDoor

/- The document's Put, and where its answer lies. -/
namespace Go.Proofs.YtdjodigimhgklaaGreatDoor
open Go.RowKit Go.Shelf Go.Maps

attribute [local go_sem] Oper.semAt_some

set_option maxRecDepth 100000 in
set_option maxHeartbeats 8000000 in
theorem rputC_any (w : World) (a : Option Addr) (n c x y : Nat) (l : List Pr) (h : PrV w a n c l) (hn : n ≤ 100000) :
    Calls Tryz.prog 47 #[.slice a n c, .agg #[.int .u64 (x : Int), .int .u64 (y : Int)]] w fun e w' => ∃ ad m c' l', e = .returned (.slice ad m c') ∧ PrV w' ad m c' l' ∧ PutR l (x, y) l' ∧ Below w.heap.size w w' ∧ (ad = a ∨ ∀ q, ad = some q → w.heap.size ≤ q.block) := by
  have hmx : Tryz.prog.follows .mixedOrders = true := by kernel_rfl
  obtain ⟨w0, hw0⟩ : ∃ w0, w0 = w.alloc (.cells #[.int .u64 (x : Int), .int .u64 (y : Int)] 39) := ⟨_, rfl⟩
  have hB0 : Below w.heap.size w w0 := by rw [hw0]; exact (Below.refl _ w).alloc (Nat.le_refl _) _
  have bx0 : BoxV w0 w.heap.size x y := by rw [hw0]; exact BoxV.new w _ _
  have hP := h.kept hB0
  have hf := rfind_any w0 a n c x l hP.prs (by omega)
  have c0 := bx0.cell.1
  have H0 : Hid (Below w.heap.size w w0 ∧ BoxV w0 w.heap.size x y ∧ PrV w0 a n c l) := ⟨hB0, bx0, hP⟩
  clear hB0 bx0 hP
  cases hlk : lookP l x with
  | some z =>
    obtain ⟨j, hj, _⟩ := idxF_some l x 0 z hlk
    rw [hj] at hf
    have i1 : ¬ ((0 + j : Nat) : Int) < 0 := by omega
    have i2 : (0 : Int) ≤ ((0 + j : Nat) : Int) := by omega
    have HP : Hid (PutR l (x, y) l) := .inl ⟨by rw [hlk]; exact (fun h => by cases h), rfl⟩
    rw [hw0] at c0 hf
    clear hlk hj h
    go_enter Tryz.func47, Tryz.ntmps47
    go_wp2_with (go_at_call 46; refine hf.mono ?_; clear hf; rintro e w1 ⟨rfl, hw1⟩; subst hw1)
    go_ret
    rw [← hw0]
    exact ⟨a, n, c, l, rfl, H0.out.2.2, HP.out, H0.out.1, .inl rfl⟩
  | none =>
    rw [idxF_none l x 0 hlk] at hf
    rw [hw0] at c0 hf
    have HLk : Hid (lookP l x = none) := hlk
    clear hlk
    go_enter Tryz.func47, Tryz.ntmps47
    go_wp2_with (go_at_call 46; refine hf.mono ?_; clear hf; rintro e w1 ⟨rfl, hw1⟩; subst hw1)
    rw [← hw0]
    clear hw0 c0
    have hsw : w.heap.size ≤ w0.heap.size := H0.out.1.size
    have hbl := H0.out.2.1.lt
    go_loopw [5, 6] (fun v i wr => ∃ k : Nat, k ≤ n ∧ i = .int .i64 (k : Int) ∧ Hid (wr.ownsRow (w.heap.size + 1) 39 2 v k (prCells (l.take k)) ∧ Below (w.heap.size + 1) w0 wr ∧ ∀ q ∈ l.take k, q.1 < x)) (fun _ i _ => n - (intOf i).toNat)
    case atStart => exact ⟨0, Nat.zero_le _, rfl, by rw [List.take_zero]; exact World.ownsRow_nil _ _ _ _, Below.refl _ _, by simp⟩
    case round =>
      obtain ⟨k, hk, rfl, H⟩ := hrel
      have hBw : Below w.heap.size w wr := H0.out.1.trans (H.out.2.1.mono (Nat.le_succ _))
      have hP : Prs wr a n l := h.prs.kept hBw
      have hbx : BoxV wr w.heap.size x y := H0.out.2.1.below H.out.2.1 (Nat.lt_succ_self _)
      obtain ⟨cx, cy⟩ := hbx.cell
      have H1 : Hid (wr.ownsRow (w.heap.size + 1) 39 2 u5 k (prCells (l.take k)) ∧ BoxV wr w.heap.size x y ∧ Below w.heap.size w wr ∧ Below (w.heap.size + 1) w0 wr) := ⟨H.out.1, hbx, hBw, H.out.2.1⟩
      by_cases hlt : k < n
      · obtain ⟨⟨px, py⟩, hp⟩ : ∃ x, l[k]? = some x := ⟨_, List.getElem?_eq_getElem (by rw [h.prs.1]; exact hlt)⟩
        obtain ⟨b1, o1, rfl, hc1⟩ := hP.2 (by omega)
        obtain ⟨q1, q2⟩ := hc1 k _ hp
        have i2 : (k : Int) < (n : Int) := by omega
        have i3 : ¬ n ≤ k := by omega
        simp only at q1 q2
        have HT : Hid (l.take (k + 1) = l.take k ++ [(px, py)] ∧ (px < x → ∀ q ∈ l.take (k + 1), q.1 < x) ∧ ((∀ q ∈ l.take k, q.1 < x) ∧ (¬ px < x → ∀ q, l[k]? = some q → ¬ q.1 < x))) := by
          refine ⟨take_getV hp, fun hx q hq => ?_, H.out.2.2, fun hx q hq => ?_⟩
          · rw [take_getV hp] at hq
            rcases List.mem_append.1 hq with hq | hq
            · exact H.out.2.2 q hq
            · rw [List.mem_singleton.1 hq]; exact hx
          · rw [hp] at hq
            cases hq
            exact hx
        clear hc1 hp hP hbx hBw H
        go_upto_region 5 with fail
        refine wp_region_G (S := SB 1000 (fun _ => True) (fun Y => Y.cell? ⟨w.heap.size, 0, none⟩ = some (.int .u64 (x : Int)) ∧ Y.cell? ⟨b1, o1 + k * 2, none⟩ = some (.int .u64 (px : Int)))) hmx ?_
        have hSB : SB 1000 (fun _ => True) (fun Y => Y.cell? ⟨w.heap.size, 0, none⟩ = some (.int .u64 (x : Int)) ∧ Y.cell? ⟨b1, o1 + k * 2, none⟩ = some (.int .u64 (px : Int))) (Array.replicate 14 false) wr.drew := SB.on trivial ⟨cx, q1⟩
        refine wpAnyG_takeP (i := 0) (v := ?_) rfl (by kernel_rfl) (by kernel_rfl) (by kernel_rfl) (fun _ _ _ h => h) rfl (Or.inl ⟨by rfl, ?_⟩) (by assumption) ?_
        rotate_left
        · intro Y _; go_simp; try with_reducible rfl
        intro hSB0
        try simp only [Act.put, List.getElem_toArray, List.getElem_cons_zero, List.setIfInBounds_toArray, List.set_cons_zero, List.set_cons_succ]
        refine wpAnyG_takeP (i := 1) (v := ?_) rfl (by kernel_rfl) (by kernel_rfl) (by kernel_rfl) (fun _ _ _ h => h) rfl (Or.inl ⟨by rfl, ?_⟩) (by assumption) ?_
        rotate_left
        · intro Y _; go_simp; try with_reducible rfl
        intro hSB1
        try simp only [Act.put, List.getElem_toArray, List.getElem_cons_zero, List.getElem_cons_succ, List.setIfInBounds_toArray, List.set_cons_zero, List.set_cons_succ]
        refine wpAnyG_takeP (i := 2) (v := ?_) rfl (by kernel_rfl) (by kernel_rfl) (by kernel_rfl) (fun _ _ _ h => h) rfl (Or.inl ⟨by rfl, ?_⟩) (by assumption) ?_
        rotate_left
        · intro Y _; go_simp; try with_reducible rfl
        intro hSB2
        try simp only [Act.put, List.getElem_toArray, List.getElem_cons_zero, List.getElem_cons_succ, List.setIfInBounds_toArray, List.set_cons_zero, List.set_cons_succ]
        refine wpAnyG_takeP (i := 3) (v := ?_) rfl (by kernel_rfl) (by kernel_rfl) (by kernel_rfl) (fun _ _ _ h => h) rfl (Or.inl ⟨by rfl, ?_⟩) (by assumption) ?_
        rotate_left
        · intro Y _; go_simp; try with_reducible rfl
        intro hSB3
        try simp only [Act.put, List.getElem_toArray, List.getElem_cons_zero, List.getElem_cons_succ, List.setIfInBounds_toArray, List.set_cons_zero, List.set_cons_succ]
        refine wpAnyG_takeP (i := 4) (v := ?_) rfl (by kernel_rfl) (by kernel_rfl) (by kernel_rfl) (fun _ _ _ h => h) rfl (Or.inl ⟨by rfl, ?_⟩) (by assumption) ?_
        rotate_left
        · intro Y _; go_simp; try with_reducible rfl
        intro hSB4
        try simp only [Act.put, List.getElem_toArray, List.getElem_cons_zero, List.getElem_cons_succ, List.setIfInBounds_toArray, List.set_cons_zero, List.set_cons_succ]
        refine wpAnyG_takeP (i := 5) (v := ?_) rfl (by kernel_rfl) (by kernel_rfl) (by kernel_rfl) (fun _ _ _ h => h) rfl (Or.inl ⟨by rfl, ?_⟩) (by assumption) ?_
        rotate_left
        · intro Y _; go_simp; try with_reducible rfl
        intro hSB5
        try simp only [Act.put, List.getElem_toArray, List.getElem_cons_zero, List.getElem_cons_succ, List.setIfInBounds_toArray, List.set_cons_zero, List.set_cons_succ]
        refine wpAnyG_takeP (i := 6) (v := ?_) rfl (by kernel_rfl) (by kernel_rfl) (by kernel_rfl) (fun _ _ _ h => h) rfl (Or.inl ⟨by rfl, ?_⟩) (by assumption) ?_
        rotate_left
        · intro Y _; go_simp; try with_reducible rfl
        intro hSB6
        try simp only [Act.put, List.getElem_toArray, List.getElem_cons_zero, List.getElem_cons_succ, List.setIfInBounds_toArray, List.set_cons_zero, List.set_cons_succ]
        refine wpAnyG_takeP (i := 7) (v := ?_) rfl (by kernel_rfl) (by kernel_rfl) (by kernel_rfl) (fun _ _ _ h => h) rfl (Or.inl ⟨by rfl, ?_⟩) (by assumption) ?_
        rotate_left
        · intro Y _; go_simp; try with_reducible rfl
        intro hSB7
        try simp only [Act.put, List.getElem_toArray, List.getElem_cons_zero, List.getElem_cons_succ, List.setIfInBounds_toArray, List.set_cons_zero, List.set_cons_succ]
        refine wpAnyG_takeP (i := 8) (v := ?_) rfl (by kernel_rfl) (by kernel_rfl) (by kernel_rfl) (fun _ _ _ h => h) rfl (Or.inl ⟨by rfl, ?_⟩) (by assumption) ?_
        rotate_left
        · intro Y _; go_simp; try with_reducible rfl
        intro hSB8
        try simp only [Act.put, List.getElem_toArray, List.getElem_cons_zero, List.getElem_cons_succ, List.setIfInBounds_toArray, List.set_cons_zero, List.set_cons_succ]
        refine wpAnyG_takeP (i := 9) (v := ?_) rfl (by kernel_rfl) (by kernel_rfl) (by kernel_rfl) (fun _ _ _ h => h) rfl (Or.inl ⟨by rfl, ?_⟩) (by assumption) ?_
        rotate_left
        · intro Y hY; obtain ⟨y1, y2⟩ := hY; go_simp; try with_reducible rfl
        intro hSB9
        try simp only [Act.put, List.getElem_toArray, List.getElem_cons_zero, List.getElem_cons_succ, List.setIfInBounds_toArray, List.set_cons_zero, List.set_cons_succ]
        refine wpAnyG_takeP (i := 10) (v := ?_) rfl (by kernel_rfl) (by kernel_rfl) (by kernel_rfl) (fun _ _ _ h => h) rfl (Or.inl ⟨by rfl, ?_⟩) (by assumption) ?_
        rotate_left
        · intro Y _; go_simp; try with_reducible rfl
        intro hSB10
        try simp only [Act.put, List.getElem_toArray, List.getElem_cons_zero, List.getElem_cons_succ, List.setIfInBounds_toArray, List.set_cons_zero, List.set_cons_succ]
        refine wpAnyG_takeP (i := 11) (v := ?_) rfl (by kernel_rfl) (by kernel_rfl) (by kernel_rfl) (fun _ _ _ h => h) rfl (Or.inl ⟨by rfl, ?_⟩) (by assumption) ?_
        rotate_left
        · intro Y hY; obtain ⟨y1, y2⟩ := hY; go_simp; try with_reducible rfl
        intro hSB11
        try simp only [Act.put, List.getElem_toArray, List.getElem_cons_zero, List.getElem_cons_succ, List.setIfInBounds_toArray, List.set_cons_zero, List.set_cons_succ]
        refine wpAnyG_takeP (i := 12) (v := ?_) rfl (by kernel_rfl) (by kernel_rfl) (by kernel_rfl) (fun _ _ _ h => h) rfl (Or.inl ⟨by rfl, ?_⟩) (by assumption) ?_
        rotate_left
        · intro Y _; go_simp; try with_reducible rfl
        intro hSB12
        try simp only [Act.put, List.getElem_toArray, List.getElem_cons_zero, List.getElem_cons_succ, List.setIfInBounds_toArray, List.set_cons_zero, List.set_cons_succ]
        refine wpAnyG_takeP (i := 13) (v := ?_) rfl (by kernel_rfl) (by kernel_rfl) (by kernel_rfl) (fun _ _ _ h => h) rfl (Or.inl ⟨by rfl, ?_⟩) (by assumption) ?_
        rotate_left
        · intro Y _; go_simp; try with_reducible rfl
        intro hSB13
        try simp only [Act.put, List.getElem_toArray, List.getElem_cons_zero, List.getElem_cons_succ, List.setIfInBounds_toArray, List.set_cons_zero, List.set_cons_succ]
        refine wpAnyG_done (by kernel_rfl) ?_ _
        clear hSB hSB0 hSB1 hSB2 hSB3 hSB4 hSB5 hSB6 hSB7 hSB8 hSB9 hSB10 hSB11 hSB12 hSB13
        by_cases hpx : px < x
        · have i4 : (px : Int) < (x : Int) := by omega
          replace q1 : wr.drew.cell? ⟨b1, o1 + k * 2, none⟩ = some (.int .u64 (px : Int)) := q1
          replace q2 : wr.drew.cell? ⟨b1, o1 + k * 2 + 1, none⟩ = some (.int .u64 (py : Int)) := q2
          have hown9 := row_movedV (W' := wr.drew) H1.out.1 (fun r _ => rfl)
          have H9 : Hid ((wr.drew).ownsRow (w.heap.size + 1) 39 2 u5 k (prCells (l.take k)) ∧ BoxV (wr.drew) w.heap.size x y ∧ Below w.heap.size w (wr.drew) ∧ Below (w.heap.size + 1) w0 (wr.drew)) := ⟨hown9, H1.out.2.1, ⟨H1.out.2.2.1.os, H1.out.2.2.1.tape, H1.out.2.2.1.output, H1.out.2.2.1.size, H1.out.2.2.1.block⟩, ⟨H1.out.2.2.2.os, H1.out.2.2.2.tape, H1.out.2.2.2.output, H1.out.2.2.2.size, H1.out.2.2.2.block⟩⟩
          clear hown9 H1 cx cy
          generalize wr.drew = w5 at *
          obtain ⟨cx5, cy5⟩ := H9.out.2.1.cell
          have hs5 : w.heap.size + 1 ≤ w5.heap.size := H9.out.2.1.lt
          go_wp2_with (at_builtin; refine wpList_appV rfl _ _ rfl (w.heap.size + 1) k 1 1 u5 (l.take k) [(px, py)] (some ⟨w5.heap.size, 0, none⟩) rfl rfl (row_keptV H9.out.1 ((Below.refl _ w5).alloc (Nat.le_refl _) _)) (prs_one w5 px py) (fun e => by cases e) (by omega) (by simp; omega) ?_; intro a6 c6 w6 hc6 hown6 hB6)
          have H6 : Hid (w6.ownsRow (w.heap.size + 1) 39 2 (.slice a6 (k + 1) c6) (k + 1) (prCells (l.take (k + 1))) ∧ Below (w.heap.size + 1) w0 w6 ∧ ∀ q ∈ l.take (k + 1), q.1 < x) := ⟨by rw [HT.out.1]; exact hown6, H9.out.2.2.2.trans (((Below.refl (w.heap.size + 1) w5).alloc hs5 _).trans hB6), HT.out.2.1 hpx⟩
          clear hown6 hB6 H9 cx5 cy5 hs5 hc6
          go_roundw
          case rel => exact ⟨k + 1, by omega, by go_num, H6⟩
          case measure => simp [intOf]; omega
        · have i4 : ¬ (px : Int) < (x : Int) := by omega
          have HS : Hid ((∀ q ∈ l.take k, q.1 < x) ∧ ∀ q, l[k]? = some q → ¬ q.1 < x) := ⟨HT.out.2.2.1, HT.out.2.2.2 hpx⟩
          clear HT
          have hown9 := row_movedV (W' := wr.drew) H1.out.1 (fun r _ => rfl)
          have H9 : Hid ((wr.drew).ownsRow (w.heap.size + 1) 39 2 u5 k (prCells (l.take k)) ∧ BoxV (wr.drew) w.heap.size x y ∧ Below w.heap.size w (wr.drew) ∧ Below (w.heap.size + 1) w0 (wr.drew)) := ⟨hown9, H1.out.2.1, ⟨H1.out.2.2.1.os, H1.out.2.2.1.tape, H1.out.2.2.1.output, H1.out.2.2.1.size, H1.out.2.2.1.block⟩, ⟨H1.out.2.2.2.os, H1.out.2.2.2.tape, H1.out.2.2.2.output, H1.out.2.2.2.size, H1.out.2.2.2.block⟩⟩
          clear hown9 H1 cx cy
          generalize wr.drew = w5 at *
          obtain ⟨cx5, cy5⟩ := H9.out.2.1.cell
          have hs5 : w.heap.size + 1 ≤ w5.heap.size := H9.out.2.1.lt
          have HK5 : Hid (k ≤ n ∧ l.length = n) := ⟨hk, h.prs.1⟩
          go_wp2_with (at_builtin; refine wpList_appV rfl _ _ rfl (w.heap.size + 1) k 1 1 u5 (l.take k) [(x, y)] (some ⟨w5.heap.size, 0, none⟩) rfl rfl (row_keptV H9.out.1 ((Below.refl _ w5).alloc (Nat.le_refl _) _)) (prs_one w5 x y) (fun e => by cases e) (by omega) (by simp; omega) ?_; intro a6 c6 w6 hc6 hown6 hB6)
          have H6 : Hid (w6.ownsRow (w.heap.size + 1) 39 2 (.slice a6 (k + 1) c6) (k + 1) (prCells (l.take k ++ [(x, y)] ++ (l.drop k).take 0)) ∧ Below w.heap.size w w6 ∧ w.heap.size + 1 ≤ w6.heap.size) := ⟨by rw [List.take_zero, List.append_nil]; exact hown6, H9.out.2.2.1.trans ((((Below.refl (w.heap.size + 1) w5).alloc hs5 _).trans hB6).mono (Nat.le_succ _)), Nat.le_trans hs5 (((Below.refl (w.heap.size + 1) w5).alloc hs5 _).trans hB6).size⟩
          clear hown6 hB6 H9 cx5 cy5 hs5 hc6
          go_loopw [5, 6] (fun v i wr => ∃ j : Nat, k + j ≤ n ∧ i = .int .i64 ((k + j : Nat) : Int) ∧ Hid (wr.ownsRow (w.heap.size + 1) 39 2 v (k + 1 + j) (prCells (l.take k ++ [(x, y)] ++ (l.drop k).take j)) ∧ Below w.heap.size w wr ∧ w.heap.size + 1 ≤ wr.heap.size)) (fun _ i _ => n - (intOf i).toNat)
          case atStart => exact ⟨0, by omega, rfl, H6⟩
          case round =>
            clear H6
            obtain ⟨j, hj, rfl, G⟩ := hrel
            by_cases hlt2 : k + j < n
            · obtain ⟨⟨rx, ry⟩, hr⟩ : ∃ x, l[k + j]? = some x := ⟨_, List.getElem?_eq_getElem (by rw [h.prs.1]; exact hlt2)⟩
              obtain ⟨b2, o2, e2, hc2⟩ := (h.prs.kept G.out.2.1).2 (by omega)
              first | subst e2 | (cases e2)
              obtain ⟨t1, t2⟩ := hc2 (k + j) _ hr
              have j2 : ((k + j : Nat) : Int) < (n : Int) := by omega
              have j3 : ¬ n ≤ k + j := by omega
              have HT2 : Hid ((l.drop k).take (j + 1) = (l.drop k).take j ++ [(rx, ry)]) := by
                show _ = _
                rw [List.take_add_one, List.getElem?_drop, hr]
                try rfl
              simp only at t1 t2
              have hg5 := G.out.2.2
              clear hc2 hr
              go_wp2_with (at_builtin; refine wpList_appV rfl _ _ rfl (w.heap.size + 1) (k + 1 + j) 1 1 _ _ [(rx, ry)] (some ⟨wr.heap.size, 0, none⟩) rfl rfl (row_keptV G.out.1 ((Below.refl _ wr).alloc (Nat.le_refl _) _)) (prs_one wr rx ry) (fun e => by cases e) (by omega) (by simp; omega) ?_; intro a7 c7 w7 hc7 hown7 hB7)
              have H7 : Hid (w7.ownsRow (w.heap.size + 1) 39 2 (.slice a7 (k + 1 + j + 1) c7) (k + 1 + (j + 1)) (prCells (l.take k ++ [(x, y)] ++ (l.drop k).take (j + 1))) ∧ Below w.heap.size w w7 ∧ w.heap.size + 1 ≤ w7.heap.size) := ⟨by rw [HT2.out, ← List.append_assoc]; exact hown7, G.out.2.1.trans ((((Below.refl (w.heap.size + 1) wr).alloc hg5 _).trans hB7).mono (Nat.le_succ _)), Nat.le_trans hg5 (((Below.refl (w.heap.size + 1) wr).alloc hg5 _).trans hB7).size⟩
              clear hown7 hB7 G t1 t2
              go_roundw
              case rel => exact ⟨j + 1, by omega, by go_num, H7⟩
              case measure => simp [intOf]; omega
            · obtain ⟨a8, c8, rfl, hpv, hl8⟩ := own_prv G.out.1
              have HZ : Hid (PrV wr a8 (k + 1 + j) c8 (l.take k ++ [(x, y)] ++ (l.drop k).take j) ∧ Below w.heap.size w wr ∧ ∀ q, a8 = some q → w.heap.size ≤ q.block) := ⟨hpv, G.out.2.1, fun q e => (by have := (G.out.1.lt q.block (by rw [e]; rfl)).1; omega)⟩
              have hjn : ¬ ((k + j : Nat) : Int) < (n : Int) := by omega
              have HJ : Hid (l.take k ++ [(x, y)] ++ (l.drop k).take j = l.take k ++ (x, y) :: l.drop k) := by
                show _ = _
                rw [List.take_of_length_le (l := l.drop k) (by rw [List.length_drop, HK5.out.2]; omega), List.append_assoc]
                rfl
              clear hpv hl8 G
              go_wp2
              go_ret
              rw [HJ.out] at HZ
              exact ⟨a8, _, c8, rfl, _, HZ.out.1, .inr ⟨HLk.out, k, by rw [HK5.out.2]; exact HK5.out.1, rfl, HS.out.1, HS.out.2⟩, HZ.out.2.1, .inr HZ.out.2.2⟩
      · obtain rfl : k = n := by omega
        have HS : Hid ((∀ q ∈ l.take k, q.1 < x) ∧ ∀ q, l[k]? = some q → ¬ q.1 < x) := ⟨H.out.2.2, fun q hq => by have := (List.getElem?_eq_some_iff.1 hq).1; rw [h.prs.1] at this; omega⟩
        clear hP hbx hBw H
        go_upto_region 5 with fail
        refine wp_region_G (S := SB 1000 (fun _ => True) (fun _ => True)) hmx ?_
        have hSB : SB 1000 (fun _ => True) (fun _ => True) (Array.replicate 14 false) wr.drew := SB.on trivial trivial
        refine wpAnyG_takeP (i := 0) (v := ?_) rfl (by kernel_rfl) (by kernel_rfl) (by kernel_rfl) (fun _ _ _ h => h) rfl (Or.inl ⟨by rfl, ?_⟩) (by assumption) ?_
        rotate_left
        · intro Y _; go_simp; try with_reducible rfl
        intro hSB0
        try simp only [Act.put, List.getElem_toArray, List.getElem_cons_zero, List.setIfInBounds_toArray, List.set_cons_zero, List.set_cons_succ]
        refine wpAnyG_takeP (i := 1) (v := ?_) rfl (by kernel_rfl) (by kernel_rfl) (by kernel_rfl) (fun _ _ _ h => h) rfl (Or.inl ⟨by rfl, ?_⟩) (by assumption) ?_
        rotate_left
        · intro Y _; go_simp; try with_reducible rfl
        intro hSB1
        try simp only [Act.put, List.getElem_toArray, List.getElem_cons_zero, List.getElem_cons_succ, List.setIfInBounds_toArray, List.set_cons_zero, List.set_cons_succ]
        refine wpAnyG_takeP (i := 2) (v := ?_) rfl (by kernel_rfl) (by kernel_rfl) (by kernel_rfl) (fun _ _ _ h => h) rfl (Or.inl ⟨by rfl, ?_⟩) (by assumption) ?_
        rotate_left
        · intro Y _; go_simp; try with_reducible rfl
        intro hSB2
        try simp only [Act.put, List.getElem_toArray, List.getElem_cons_zero, List.getElem_cons_succ, List.setIfInBounds_toArray, List.set_cons_zero, List.set_cons_succ]
        refine wpAnyG_takeP (i := 3) (v := ?_) rfl (by kernel_rfl) (by kernel_rfl) (by kernel_rfl) (fun _ _ _ h => h) rfl (Or.inl ⟨by rfl, ?_⟩) (by assumption) ?_
        rotate_left
        · intro Y _; go_simp; try with_reducible rfl
        intro hSB3
        try simp only [Act.put, List.getElem_toArray, List.getElem_cons_zero, List.getElem_cons_succ, List.setIfInBounds_toArray, List.set_cons_zero, List.set_cons_succ]
        refine wpAnyG_takeP (i := 4) (v := ?_) rfl (by kernel_rfl) (by kernel_rfl) (by kernel_rfl) (fun _ _ _ h => h) rfl (Or.inl ⟨by rfl, ?_⟩) (by assumption) ?_
        rotate_left
        · intro Y _; go_simp; try with_reducible rfl
        intro hSB4
        try simp only [Act.put, List.getElem_toArray, List.getElem_cons_zero, List.getElem_cons_succ, List.setIfInBounds_toArray, List.set_cons_zero, List.set_cons_succ]
        refine wpAnyG_takeP (i := 5) (v := undef) rfl (by kernel_rfl) (by kernel_rfl) (by kernel_rfl) (fun _ _ _ h => h) rfl (Or.inr ⟨by rfl, rfl⟩) (by assumption) ?_
        intro hSB5
        try simp only [Act.put, List.getElem_toArray, List.getElem_cons_zero, List.getElem_cons_succ, List.setIfInBounds_toArray, List.set_cons_zero, List.set_cons_succ]
        refine wpAnyG_takeP (i := 6) (v := undef) rfl (by kernel_rfl) (by kernel_rfl) (by kernel_rfl) (fun _ _ _ h => h) rfl (Or.inr ⟨by rfl, rfl⟩) (by assumption) ?_
        intro hSB6
        try simp only [Act.put, List.getElem_toArray, List.getElem_cons_zero, List.getElem_cons_succ, List.setIfInBounds_toArray, List.set_cons_zero, List.set_cons_succ]
        refine wpAnyG_takeP (i := 7) (v := undef) rfl (by kernel_rfl) (by kernel_rfl) (by kernel_rfl) (fun _ _ _ h => h) rfl (Or.inr ⟨by rfl, rfl⟩) (by assumption) ?_
        intro hSB7
        try simp only [Act.put, List.getElem_toArray, List.getElem_cons_zero, List.getElem_cons_succ, List.setIfInBounds_toArray, List.set_cons_zero, List.set_cons_succ]
        refine wpAnyG_takeP (i := 8) (v := undef) rfl (by kernel_rfl) (by kernel_rfl) (by kernel_rfl) (fun _ _ _ h => h) rfl (Or.inr ⟨by rfl, rfl⟩) (by assumption) ?_
        intro hSB8
        try simp only [Act.put, List.getElem_toArray, List.getElem_cons_zero, List.getElem_cons_succ, List.setIfInBounds_toArray, List.set_cons_zero, List.set_cons_succ]
        refine wpAnyG_takeP (i := 9) (v := undef) rfl (by kernel_rfl) (by kernel_rfl) (by kernel_rfl) (fun _ _ _ h => h) rfl (Or.inr ⟨by rfl, rfl⟩) (by assumption) ?_
        intro hSB9
        try simp only [Act.put, List.getElem_toArray, List.getElem_cons_zero, List.getElem_cons_succ, List.setIfInBounds_toArray, List.set_cons_zero, List.set_cons_succ]
        refine wpAnyG_takeP (i := 10) (v := undef) rfl (by kernel_rfl) (by kernel_rfl) (by kernel_rfl) (fun _ _ _ h => h) rfl (Or.inr ⟨by rfl, rfl⟩) (by assumption) ?_
        intro hSB10
        try simp only [Act.put, List.getElem_toArray, List.getElem_cons_zero, List.getElem_cons_succ, List.setIfInBounds_toArray, List.set_cons_zero, List.set_cons_succ]
        refine wpAnyG_takeP (i := 11) (v := undef) rfl (by kernel_rfl) (by kernel_rfl) (by kernel_rfl) (fun _ _ _ h => h) rfl (Or.inr ⟨by rfl, rfl⟩) (by assumption) ?_
        intro hSB11
        try simp only [Act.put, List.getElem_toArray, List.getElem_cons_zero, List.getElem_cons_succ, List.setIfInBounds_toArray, List.set_cons_zero, List.set_cons_succ]
        refine wpAnyG_takeP (i := 12) (v := undef) rfl (by kernel_rfl) (by kernel_rfl) (by kernel_rfl) (fun _ _ _ h => h) rfl (Or.inr ⟨by rfl, rfl⟩) (by assumption) ?_
        intro hSB12
        try simp only [Act.put, List.getElem_toArray, List.getElem_cons_zero, List.getElem_cons_succ, List.setIfInBounds_toArray, List.set_cons_zero, List.set_cons_succ]
        refine wpAnyG_takeP (i := 13) (v := ?_) rfl (by kernel_rfl) (by kernel_rfl) (by kernel_rfl) (fun _ _ _ h => h) rfl (Or.inl ⟨by rfl, ?_⟩) (by assumption) ?_
        rotate_left
        · intro Y _; go_simp; try with_reducible rfl
        intro hSB13
        try simp only [Act.put, List.getElem_toArray, List.getElem_cons_zero, List.getElem_cons_succ, List.setIfInBounds_toArray, List.set_cons_zero, List.set_cons_succ]
        refine wpAnyG_done (by kernel_rfl) ?_ _
        clear hSB hSB0 hSB1 hSB2 hSB3 hSB4 hSB5 hSB6 hSB7 hSB8 hSB9 hSB10 hSB11 hSB12 hSB13
        have hown9 := row_movedV (W' := wr.drew) H1.out.1 (fun r _ => rfl)
        have H9 : Hid ((wr.drew).ownsRow (w.heap.size + 1) 39 2 u5 k (prCells (l.take k)) ∧ BoxV (wr.drew) w.heap.size x y ∧ Below w.heap.size w (wr.drew) ∧ Below (w.heap.size + 1) w0 (wr.drew)) := ⟨hown9, H1.out.2.1, ⟨H1.out.2.2.1.os, H1.out.2.2.1.tape, H1.out.2.2.1.output, H1.out.2.2.1.size, H1.out.2.2.1.block⟩, ⟨H1.out.2.2.2.os, H1.out.2.2.2.tape, H1.out.2.2.2.output, H1.out.2.2.2.size, H1.out.2.2.2.block⟩⟩
        clear hown9 H1 cx cy
        generalize wr.drew = w5 at *
        obtain ⟨cx5, cy5⟩ := H9.out.2.1.cell
        have hs5 : w.heap.size + 1 ≤ w5.heap.size := H9.out.2.1.lt
        have HK5 : Hid (k ≤ k ∧ l.length = k) := ⟨hk, h.prs.1⟩
        go_wp2_with (at_builtin; refine wpList_appV rfl _ _ rfl (w.heap.size + 1) k 1 1 u5 (l.take k) [(x, y)] (some ⟨w5.heap.size, 0, none⟩) rfl rfl (row_keptV H9.out.1 ((Below.refl _ w5).alloc (Nat.le_refl _) _)) (prs_one w5 x y) (fun e => by cases e) (by omega) (by simp; omega) ?_; intro a6 c6 w6 hc6 hown6 hB6)
        have H6 : Hid (w6.ownsRow (w.heap.size + 1) 39 2 (.slice a6 (k + 1) c6) (k + 1) (prCells (l.take k ++ [(x, y)] ++ (l.drop k).take 0)) ∧ Below w.heap.size w w6 ∧ w.heap.size + 1 ≤ w6.heap.size) := ⟨by rw [List.take_zero, List.append_nil]; exact hown6, H9.out.2.2.1.trans ((((Below.refl (w.heap.size + 1) w5).alloc hs5 _).trans hB6).mono (Nat.le_succ _)), Nat.le_trans hs5 (((Below.refl (w.heap.size + 1) w5).alloc hs5 _).trans hB6).size⟩
        clear hown6 hB6 H9 cx5 cy5 hs5 hc6
        go_loopw [5, 6] (fun v i wr => ∃ j : Nat, k + j ≤ k ∧ i = .int .i64 ((k + j : Nat) : Int) ∧ Hid (wr.ownsRow (w.heap.size + 1) 39 2 v (k + 1 + j) (prCells (l.take k ++ [(x, y)] ++ (l.drop k).take j)) ∧ Below w.heap.size w wr ∧ w.heap.size + 1 ≤ wr.heap.size)) (fun _ i _ => k - (intOf i).toNat)
        case atStart => exact ⟨0, by omega, rfl, H6⟩
        case round =>
          clear H6
          obtain ⟨j, hj, rfl, G⟩ := hrel
          by_cases hlt2 : k + j < k
          · omega
          · obtain ⟨a8, c8, rfl, hpv, hl8⟩ := own_prv G.out.1
            have HZ : Hid (PrV wr a8 (k + 1 + j) c8 (l.take k ++ [(x, y)] ++ (l.drop k).take j) ∧ Below w.heap.size w wr ∧ ∀ q, a8 = some q → w.heap.size ≤ q.block) := ⟨hpv, G.out.2.1, fun q e => (by have := (G.out.1.lt q.block (by rw [e]; rfl)).1; omega)⟩
            have hjn : ¬ ((k + j : Nat) : Int) < (k : Int) := by omega
            have HJ : Hid (l.take k ++ [(x, y)] ++ (l.drop k).take j = l.take k ++ (x, y) :: l.drop k) := by
              show _ = _
              rw [List.take_of_length_le (l := l.drop k) (by rw [List.length_drop, HK5.out.2]; omega), List.append_assoc]
              rfl
            clear hpv hl8 G
            go_wp2
            go_ret
            rw [HJ.out] at HZ
            exact ⟨a8, _, c8, rfl, _, HZ.out.1, .inr ⟨HLk.out, k, by rw [HK5.out.2]; exact HK5.out.1, rfl, HS.out.1, HS.out.2⟩, HZ.out.2.1, .inr HZ.out.2.2⟩
end Go.Proofs.YtdjodigimhgklaaGreatDoor
