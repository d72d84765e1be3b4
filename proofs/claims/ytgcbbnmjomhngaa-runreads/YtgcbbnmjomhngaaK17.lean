import Derived.Test.YtgcbbnmjomhngaaK16
/- What Each tells: the pairs, in order. -/
namespace Go.Proofs.Ytgcbbnmjomhngaa
open Go.RowKit Go.Shelf Go.Maps

attribute [local go_sem] Oper.semAt_some

/-- the pairs that Each tells of bytes -/
def eachL (b : List UInt8) : List Pr := (pairsR b).getD []
/-- what Each's closure holds -/
structure EachAt (w : World) (Bx G : Nat) (v : Value) (L : List Pr) : Prop where
  box : Boxed w Bx 22 v
  glt : G < w.heap.size
  row : (L = [] ∧ v = .slice none 0 0) ∨ (v = .slice (some ⟨G, 0, none⟩) L.length L.length ∧ RowV w G L)
  len : L.length ≤ 65536
theorem EachAt.kept {w w' : World} {Bx G : Nat} {v : Value} {L : List Pr} (h : EachAt w Bx G v L) (hs : w.heap.size ≤ w'.heap.size) (h1 : w'.heap[Bx]? = w.heap[Bx]?) (h2 : w'.heap[G]? = w.heap[G]?) : EachAt w' Bx G v L :=
  ⟨h1.trans h.box, Nat.lt_of_lt_of_le h.glt hs, h.row.imp id (fun ⟨e, r⟩ => ⟨e, h2.trans r⟩), h.len⟩
theorem EachAt.below {w w' : World} {Bx G : Nat} {v : Value} {L : List Pr} (h : EachAt w Bx G v L) (hB : Below w.heap.size w w') : EachAt w' Bx G v L :=
  h.kept hB.size (hB.block _ h.box.lt) (hB.block _ h.glt)

set_option maxHeartbeats 1000000 in
theorem each_any (w : World) (a : Option Addr) (n c : Nat) (b : List UInt8) (hb : Bytes w a n b) (hnil : a = none → n = 0) (hcap : n ≤ c) (hn : n ≤ 1000000000) :
    Calls Try.prog 15 #[.slice a n c] w fun e w' => ∃ Bx G v, e = .returned (.func (.func 33) #[] #[.pointer (some ⟨Bx, 0, none⟩)]) ∧ EachAt w' Bx G v (eachL b) ∧ w.heap.size ≤ Bx ∧ w.heap.size ≤ G ∧ Below w.heap.size w w' := by
  have hp := pairs_any w a n c b hb hnil hcap hn
  go_enter Try.func15, Try.ntmps15
  go_wp2_with fail
  refine hp.mono ?_
  rintro e w1 ⟨v, er, rfl, hE, hB⟩
  rcases hE with ⟨h1, rfl, rfl⟩ | ⟨l, G, h1, rfl, rfl, hG, hR⟩
  · have HB : Hid (Below w.heap.size w w1 ∧ eachL b = []) := ⟨hB, by unfold eachL; rw [h1]; rfl⟩
    clear h1 hB hp
    go_wp2
    go_ret
    refine ⟨w1.heap.size, w1.heap.size, .slice none 0 0, rfl, ⟨Boxed.new w1 _ _, by simp, .inl ⟨HB.out.2, rfl⟩, by rw [HB.out.2]; exact Nat.zero_le _⟩, HB.out.1.size, HB.out.1.size, HB.out.1.alloc HB.out.1.size _⟩
  · have HB : Hid (Below w.heap.size w w1 ∧ eachL b = l ∧ w.heap.size ≤ G ∧ RowV w1 G l ∧ l.length ≤ 65536) := ⟨hB, by unfold eachL; rw [h1]; rfl, hG, hR, (pairs_good h1).1.len⟩
    clear h1 hB hR hG hp
    go_wp2
    go_ret
    have hs := HB.out.1.size
    refine ⟨w1.heap.size, G, .slice (some ⟨G, 0, none⟩) l.length l.length, rfl, ?_, hs, HB.out.2.2.1, HB.out.1.alloc hs _⟩
    rw [HB.out.2.1]
    exact ⟨Boxed.new w1 _ _, by have := HB.out.2.2.2.1.lt; simp; omega, .inr ⟨rfl, HB.out.2.2.2.1.below ((Below.refl _ w1).alloc (Nat.le_refl _) _) HB.out.2.2.2.1.lt⟩, HB.out.2.2.2.2⟩

abbrev prE (x : Pr) : Array Value := #[.agg #[.int .u64 (x.1 : Int), .int .u64 (x.2 : Int)]]
set_option maxRecDepth 100000 in
set_option maxHeartbeats 4000000 in
theorem each_tells (w : World) (Bx G : Nat) (v : Value) (L : List Pr) (h : EachAt w Bx G v L) (n : Nat) (hn : 1 ≤ n) :
    TellsB Fence.wide n Try.prog 33 #[.pointer (some ⟨Bx, 0, none⟩)] prE (fun pre x _ => L[pre.length]? = some x) (fun k => k = Bx ∨ k = G) (fun xs => xs = L) w := by
  intro l J Jx W hW hJg hJxg hY h0
  have hE := h.below hW
  obtain ⟨ad, cp, rfl, had⟩ : ∃ ad cp, v = .slice ad L.length cp ∧ (L.length = 0 ∨ ad = some ⟨G, 0, none⟩) := by
    rcases h.row with ⟨e, e2⟩ | ⟨e, _⟩
    · exact ⟨none, 0, by rw [e2, e]; rfl, .inl (by rw [e]; rfl)⟩
    · exact ⟨_, _, e, .inr rfl⟩
  have HE : Hid (EachAt W Bx G (.slice ad L.length cp) L) := hE
  have HY : Hid (∀ pre x W1, J pre W1 → L[pre.length]? = some x → YieldAt Fence.wide (n - 1) Try.prog l (prE x) W1 fun e W' => (e = .returned (.bool true) ∧ J (pre ++ [x]) W' ∧ Keep (fun k => k = Bx ∨ k = G) W1 W') ∨ (e = .returned (.bool false) ∧ Jx (pre ++ [x]) W')) := hY
  have H0 : Hid (J [] W ∧ (∀ s X Y, J s X → X.grownBy Y none → J s Y)) := ⟨h0, hJg⟩
  have cB := hE.box.cell
  obtain ⟨N, hN⟩ : ∃ N, N = L.length := ⟨_, rfl⟩
  have HN : Hid (N = L.length ∧ N ≤ 65536) := ⟨hN, by rw [hN]; exact h.len⟩
  rw [← hN] at cB had
  have hN2 : N ≤ 65536 := by rw [hN]; exact h.len
  have HAd : Hid (N = 0 ∨ ad = some ⟨G, 0, none⟩) := had
  clear hN hY h0 hJg hJxg h hW hE had
  refine callsIn_of_wp Try.func33 rfl trivial ?_ rfl
  simp only [Try.ntmps33, List.size_toArray, List.length_cons, List.length_nil, Nat.reduceAdd, Nat.reduceSub, Array.replicate_succ, Array.replicate_zero, List.push_toArray, List.append_toArray, List.nil_append, List.cons_append]
  gi_wp2
  gi_loopw [7] (fun i wr => ∃ (k : Nat), k ≤ N ∧ i = .int .i64 (k : Int) ∧ Hid (J (L.take k) wr ∧ Keep (fun k => k = Bx ∨ k = G) W wr)) (fun i _ => N - (intOf i).toNat)
  case atStart => exact ⟨0, Nat.zero_le _, rfl, by rw [List.take_zero]; exact H0.out.1, Keep.refl _ _⟩
  case round =>
    obtain ⟨k, hk, rfl, H⟩ := hrel
    by_cases hlt : k < N
    · obtain ⟨⟨x, y⟩, hx⟩ : ∃ x, L[k]? = some x := ⟨_, List.getElem?_eq_getElem (by rw [← HN.out.1]; exact hlt)⟩
      obtain rfl := HAd.out.resolve_left (by omega)
      have hrow : RowV wr G L := by
        rcases HE.out.row with ⟨e, _⟩ | ⟨_, r⟩
        · rw [e] at hx; simp at hx
        · exact (H.out.2.2 G (.inr rfl)).trans r
      obtain ⟨q1, q2⟩ := hrow.cell hx
      have i5 : (k : Int) < (N : Int) := by omega
      have HT : Hid (L.take k ++ [(x, y)] = L.take (k + 1)) := (by rw [List.take_add_one, hx]; rfl : L.take k ++ [(x, y)] = L.take (k + 1))
      have hga : wr.grownBy (wr.alloc (.cells #[.int .u64 (x : Int), .int .u64 (y : Int)] 47)) none := World.grownBy_alloc wr _ none
      have hY1 := HY.out (L.take k) (x, y) _ (H0.out.2 _ _ _ H.out.1 hga) (by rw [List.length_take, Nat.min_eq_left (by rw [← HN.out.1]; exact hk)]; exact hx)
      have HK : Hid (Keep (fun k => k = Bx ∨ k = G) W (wr.alloc (.cells #[.int .u64 (x : Int), .int .u64 (y : Int)] 47))) := H.out.2.trans ⟨hga.size, fun j hj => hga.block j (by
        have h1 := H.out.2.1
        rcases hj with rfl | rfl
        · exact Nat.lt_of_lt_of_le HE.out.box.lt h1
        · exact Nat.lt_of_lt_of_le HE.out.glt h1) (by simp)⟩
      clear hx hrow hga
      obtain ⟨fn, tmps, assign, body, hy, hR⟩ := hY1
      simp only [prE] at hy q1 q2
      gi_wp2_with fail
      refine hR.mono ?_
      clear hR
      rintro e W3 (⟨rfl, hJ3, hk3⟩ | ⟨rfl, hJ3⟩)
      · have HF : Hid (J (L.take (k + 1)) W3 ∧ Keep (fun k => k = Bx ∨ k = G) W W3) := ⟨by rw [← HT.out]; exact hJ3, HK.out.trans hk3⟩
        clear hJ3 hk3 hy
        gi_wp2
        go_roundw
        case rel => exact ⟨k + 1, by omega, by go_num, HF⟩
        case measure => simp [intOf]; omega
      · have HF : Hid (Jx (L.take k ++ [(x, y)]) W3) := hJ3
        clear hJ3 hy
        gi_wp2
        refine bodyPost_ret (results_none rfl _ _ _) rfl ?_
        exact ⟨⟨_, rfl⟩, .inr ⟨_, HF.out⟩⟩
    · obtain rfl : k = N := by omega
      have HJ : Hid (J L wr) := (by have := H.out.1; rwa [List.take_of_length_le (by rw [← HN.out.1]; exact Nat.le_refl _)] at this : J L wr)
      gi_wp2
      go_end0
      exact ⟨⟨_, rfl⟩, .inl ⟨L, rfl, HJ.out⟩⟩
end Go.Proofs.Ytgcbbnmjomhngaa
