import Derived.Test.YtdjodigimhgklaaGreatDoorMC22
import Derived.Test.YtdjodigimhgklaaGreatDoorMC20
import Derived.Test.YtdjodigimhgklaaGreatDoorMC04
import Derived.Lib.AppendZeros
import Derived.Test.YtdjodigimhgklaaGreatDoorMC24
import Derived.Deep.CutRange
/- The walks of form: the bytes of a run. -/
namespace Go.Proofs.YtdjodigimhgklaaGreatDoor
open Go.RowKit Go.Shelf Go.Maps

attribute [local go_sem] Oper.semAt_some

theorem vzero_size (n : Nat) : (Builtin.zeroCells (Value.cells (.int .u8 0)) n).size = n := by
  unfold Builtin.zeroCells
  simp [Value.cells]
set_option maxHeartbeats 1000000 in
theorem vgrow_any (w : World) (B : Nat) (v : Value) (n m : Nat) (l : List UInt8) (hown : w.ownsRow B 5 1 v n (cellsOf l)) (hB : B ≤ w.heap.size) (hn : n + m ≤ 1000000000) :
    Calls Tryz.prog 108 #[v, .int .i64 (m : Int)] w fun e w' => ∃ v', e = .returned v' ∧ w'.ownsRow B 5 1 v' n (cellsOf l) ∧ Below w.heap.size w w' := by
  obtain ⟨i0, hi, hz0, hz1, hz2⟩ := info_parts Tryz.info5
  have hBd : Below w.heap.size w w.drew := ⟨rfl, rfl, rfl, Nat.le_refl _, fun _ _ => rfl⟩
  have new : ∀ (c : Nat) (cur : Array Value), n ≤ c → c < n + m → cur.size = c → cur.toList.take n = cellsOf l →
      (w.drew.alloc (.cells (cur.toList.toArray ++ Builtin.zeroCells (Value.cells (.int .u8 0)) (n + m - c) ++ Builtin.zeroCells (Value.cells (.int .u8 0)) (grownCap w (n + m) c 5 - (n + m))) 5)).ownsRow B 5 1 (.slice (some ⟨w.heap.size, 0, none⟩) n (grownCap w (n + m) c 5)) n (cellsOf l) := by
    intro c cur h1 h2 h3 h4
    have hge := grownCap_ge w (n + m) c 5
    have hle := grownCap_le_maxLen w (n + m) c 5 (by unfold maxLen; omega)
    refine ⟨by have := hown.1; omega, .inr ⟨w.heap.size, _, _, rfl, hB, World.alloc_heap_new w.drew _, by omega, hle, ?_, ?_⟩⟩
    · simp only [Array.size_append, vzero_size, List.size_toArray, Array.length_toList]
      omega
    · simp only [Array.toList_append, Nat.mul_one]
      rw [List.append_assoc, List.take_append_of_le_length (by simp; omega)]
      exact h4
  rcases hown.2 with ⟨rfl, hn0⟩ | ⟨g, cap, cur, rfl, hg0, hg, hnc, hcm, hcs, ht⟩
  · by_cases hm0 : m = 0
    · subst hm0
      refine Calls.mono (Any8.slices_Grow_room Tryz.growB none 0 0 0 w (Nat.le_refl _) (by omega) (by omega) (by omega)) ?_
      rintro e w' ⟨rfl, rfl⟩
      exact ⟨_, rfl, hown, Below.refl _ _⟩
    · have hl : l = [] := by
        have := hown.1
        rw [cellsOf_length] at this
        exact List.eq_nil_of_length_eq_zero (by omega)
      subst hn0
      have hN := Any8.slices_Grow_grow Tryz.growB i0 _ hi hz0 (by omega) none 0 0 m [] w (Nat.le_refl _) (by omega) (by rw [hz2]; omega) (by omega) (by simp) (fun _ => rfl) (fun _ h => by cases h)
      refine Calls.mono hN ?_
      rintro e w' ⟨rfl, rfl⟩
      exact ⟨_, rfl, new 0 #[] (by omega) (by omega) rfl (by subst hl; rfl), hBd.trans ((Below.refl _ w.drew).alloc (Nat.le_refl _) _)⟩
  · have hcm' : cap ≤ 9223372036854775807 := by unfold maxLen at hcm; omega
    simp only [Nat.mul_one] at hcs ht
    by_cases hroom : n + m ≤ cap
    · refine Calls.mono (Any8.slices_Grow_room Tryz.growB _ n cap m w hnc hcm' (by omega) hroom) ?_
      rintro e w' ⟨rfl, rfl⟩
      exact ⟨_, rfl, hown, Below.refl _ _⟩
    · have hG := Any8.slices_Grow_grow Tryz.growB i0 _ hi hz0 (by omega) (some ⟨g, 0, none⟩) n cap m cur.toList w hnc (by omega) (by rw [hz2]; omega) (by omega) (by rw [hz1, Array.length_toList]; omega) (fun h => by cases h) (fun a ha j v hj => by
        cases ha
        rw [Addr.add_lit]
        simp only [World.cell?, hg]
        show cur[0 + j]? = _
        rw [Nat.zero_add, ← Array.getElem?_toList]
        exact hj)
      refine Calls.mono hG ?_
      rintro e w' ⟨rfl, rfl⟩
      exact ⟨_, rfl, new cap cur hnc (by omega) hcs ht, hBd.trans ((Below.refl _ w.drew).alloc (Nat.le_refl _) _)⟩

/-- blocks of another type than bytes stand, but for B -/
def VKeeps (B : Nat) (W W' : World) : Prop := ∀ K cs t, W.heap[K]? = some (.cells cs t (0, 0)) → t ≠ 5 → K ≠ B → W'.heap[K]? = some (.cells cs t (0, 0))
theorem VKeeps.trans {B : Nat} {X Y Z : World} (h : VKeeps B X Y) (k : VKeeps B Y Z) : VKeeps B X Z := fun K cs t a b c => k K cs t (h K cs t a b c) b c
theorem VKeeps.of {B : Nat} {X Y : World} (h : Below X.heap.size X Y) : VKeeps B X Y := fun K _ _ a _ _ => (h.block K (Array.getElem?_eq_some_iff.1 a).1).trans a

set_option maxRecDepth 20000 in
set_option maxHeartbeats 1000000 in
theorem vput_any (w0 : World) (B : Nat) (l : List UInt8) (x : Nat) (W : World) (h : VOut w0 B l W) (hx : x < 18446744073709551616) (hm : l.length ≤ 70368744177664) :
    Calls Tryz.prog 110 #[.int .u64 (x : Int), .pointer (some ⟨B, 0, none⟩)] W fun e W' => e = .returned (.tuple #[]) ∧ VOut w0 B (l ++ wide x) W' ∧ VKeeps B W W' := by
  have hmx : Tryz.prog.follows .mixedOrders = true := by kernel_rfl
  obtain ⟨v, hv, ho⟩ := h.box
  obtain ⟨ad, cp, rfl, _⟩ := vrow_shape ho
  have hsz := h.bel.size
  have d1 : 33 ≠ 5 := by decide
  have HV : Hid (VOut w0 B l W ∧ Boxed W B 33 (.slice ad l.length cp) ∧ W.ownsRow w0.heap.size 5 1 (.slice ad l.length cp) l.length (cellsOf l)) := ⟨h, hv, ho⟩
  have hc : ∀ W1, Below W.heap.size W W1 → Calls Tryz.prog 111 #[.slice none 0 0, .int .u64 (x : Int)] W1 fun e w' => ∃ v, e = .returned v ∧ ∃ g c, v = .slice (some ⟨g, 0, none⟩) 8 c ∧ Bytes w' (some ⟨g, 0, none⟩) 8 (wide x) ∧ Below W1.heap.size W1 w' := fun W1 _ => by
    have hp := putWord_any none 0 0 x [] W1 ⟨rfl, fun h => absurd h (by omega)⟩ (by omega) hx
    simp only [Nat.zero_add, List.nil_append] at hp
    refine hp.mono ?_
    rintro e w' ⟨g, c, rfl, ho, hg⟩
    exact ⟨_, rfl, g, c, rfl, vrow_bytes ho, vgrown_below hg⟩
  have HC : Hid (∀ W1, Below W.heap.size W W1 → Calls Tryz.prog 111 #[.slice none 0 0, .int .u64 (x : Int)] W1 fun e w' => ∃ v, e = .returned v ∧ ∃ g c, v = .slice (some ⟨g, 0, none⟩) 8 c ∧ Bytes w' (some ⟨g, 0, none⟩) 8 (wide x) ∧ Below W1.heap.size W1 w') := hc
  have HM : Hid (l.length ≤ 70368744177664) := hm
  clear h ho hc hx hm
  go_enter Tryz.func110, Tryz.ntmps110
  generalize l.length = N at *
  have cv := hv.cell
  clear hv
  refine wp_region_G (S := SB 3 (fun Y => Y.cell? ⟨B, 0, none⟩ = some (.slice ad N cp)) (fun _ => True)) hmx ?_
  have hSB : SB 3 (fun Y => Y.cell? ⟨B, 0, none⟩ = some (.slice ad N cp)) (fun _ => True) (Array.replicate 5 false) W.drew := SB.on cv trivial
  refine wpAnyG_takeB (i := 0) (b := 3) (v := ?_) rfl (by kernel_rfl) (by kernel_rfl) (by kernel_rfl) (fun _ _ _ h => h) rfl (by kernel_rfl) (by rfl) (by kernel_rfl) (Or.inl ⟨by rfl, ?_⟩) (by assumption) ?_
  rotate_left
  · intro Y hY; obtain ⟨y0, _⟩ := hY; go_simp; try with_reducible rfl
  intro hSB0
  try simp only [Act.put, List.getElem_toArray, List.getElem_cons_zero, List.setIfInBounds_toArray, List.set_cons_zero, List.set_cons_succ]
  refine wpAnyG_takeP (i := 1) (v := ?_) rfl (by kernel_rfl) (by kernel_rfl) (by kernel_rfl) (fun _ _ _ h => h) rfl (Or.inl ⟨by rfl, ?_⟩) (by assumption) ?_
  rotate_left
  · intro Y _; go_simp; try with_reducible rfl
  intro hSB1
  try simp only [Act.put, List.getElem_toArray, List.getElem_cons_zero, List.getElem_cons_succ, List.setIfInBounds_toArray, List.set_cons_zero, List.set_cons_succ]
  refine wpAnyG_one (i := 2) (by kernel_rfl) rfl (fun K hK => ?_)
  have hBd : Below W.heap.size W W.drew := ⟨rfl, rfl, rfl, Nat.le_refl _, fun _ _ => rfl⟩
  refine vstep_putWord0 _ (by rfl) _ _ _ (by rfl) _ (by rfl) _ (HC.out _ hBd) ?_
  rintro v w1 ⟨g, c, rfl, hby, hB1⟩
  have H1 : Hid (Bytes w1 (some ⟨g, 0, none⟩) 8 (wide x) ∧ Below W.heap.size W w1) := ⟨hby, hBd.trans hB1⟩
  clear hby hB1 hBd
  refine hK.out _ _ (SB.on ((H1.out.2.block B HV.out.2.1.lt).trans HV.out.2.1 |> Boxed.cell) trivial) (fun hSB2 => ?_)
  clear hK K
  try simp only [Act.put, List.getElem_toArray, List.getElem_cons_zero, List.getElem_cons_succ, List.setIfInBounds_toArray, List.set_cons_zero, List.set_cons_succ]
  have HL : Hid (VOut w0 B l w1 ∧ Boxed w1 B 33 (.slice ad N cp) ∧ w1.ownsRow w0.heap.size 5 1 (.slice ad N cp) N (cellsOf l)) := ⟨HV.out.1.below H1.out.2, (H1.out.2.block B HV.out.2.1.lt).trans HV.out.2.1, HV.out.2.2.kept (row := none) ⟨H1.out.2.os, H1.out.2.tape, H1.out.2.output, H1.out.2.size, fun k hk _ => H1.out.2.block k hk⟩ (by cases (Value.slice ad N cp).ownBlock <;> simp)⟩
  refine wpAnyG_one (i := 3) (by kernel_rfl) rfl (fun K hK => ?_)
  refine vstep_app _ (by rfl) _ _ (by rfl) w0.heap.size HL.out.1.bel.size _ N _ (by rfl) HL.out.2.2 (some ⟨g, 0, none⟩) 8 c (wide x) (by rfl) H1.out.1 (fun h => by cases h) (by have := HM.out; omega) ?_
  intro ad2 c2 w2 ho2 hg2
  have hv2 : Boxed w2 B 33 (.slice ad N cp) := HL.out.2.1.kept hg2 (HL.out.2.1.not_row d1 HL.out.2.2)
  refine hK.out _ _ (SB.off (by kernel_rfl) trivial) (fun hSB3 => ?_)
  clear hK K
  try simp only [Act.put, List.getElem_toArray, List.getElem_cons_zero, List.getElem_cons_succ, List.setIfInBounds_toArray, List.set_cons_zero, List.set_cons_succ]
  have HE : Hid (VOut w0 B (l ++ wide x) (w2.setCell ⟨B, 0, none⟩ (.slice ad2 (N + 8) c2)) ∧ VKeeps B W (w2.setCell ⟨B, 0, none⟩ (.slice ad2 (N + 8) c2))) := by
    have e : N + 8 = (l ++ wide x).length := by
      have := HV.out.2.2.1
      rw [cellsOf_length] at this
      rw [List.length_append, vwide_len]; omega
    refine ⟨⟨⟨_, hv2.set _, ?_⟩, ?_, HL.out.1.le⟩, fun K cs t hK ht hKB => ?_⟩
    · rw [← e, cellsOf_append]
      exact ho2.kept (grownBy_setCell' w2 B _) (.inr (hv2.not_row d1 ho2).symm)
    · exact (HL.out.1.bel.grown hg2 HL.out.1.bel.size (fun k hk => (vrow_block HL.out.2.2 k hk).1)).setCell (p := ⟨B, 0, none⟩) HL.out.1.le _
    · have hK1 : w1.heap[K]? = some (.cells cs t (0, 0)) := (H1.out.2.block K (Array.getElem?_eq_some_iff.1 hK).1).trans hK
      have hlt : K < w1.heap.size := (Array.getElem?_eq_some_iff.1 hK1).1
      have h2 : w2.heap[K]? = some (.cells cs t (0, 0)) := (hg2.block K hlt (fun e => by
        obtain ⟨_, _, cur, hcur⟩ := vrow_block HL.out.2.2 K e.symm
        rw [hK1] at hcur
        cases hcur
        exact ht rfl)).trans hK1
      exact (Below.heap_setCell _ _ _ _ hKB).trans h2
  have c2v := hv2.cell
  have f2v := hv2.frozen
  clear hv2 ho2 hg2 HL H1 HC HV
  refine wpAnyG_one (i := 4) (by kernel_rfl) rfl (fun K hK => ?_)
  go_simp
  refine hK.out _ _ (SB.off (by kernel_rfl) trivial) (fun hSB4 => ?_)
  clear hK K
  refine wpAnyG_done (by kernel_rfl) ?_ _
  clear hSB hSB0 hSB1 hSB2 hSB3 hSB4 c2v f2v
  generalize w2.setCell ⟨B, 0, none⟩ (.slice ad2 (N + 8) c2) = W3 at *
  go_wp2
  go_end0
  exact ⟨rfl, HE.out.1, HE.out.2⟩
end Go.Proofs.YtdjodigimhgklaaGreatDoor

/- What Each tells: the pairs, in order. -/
namespace Go.Proofs.YtdjodigimhgklaaGreatDoor
open Go.RowKit Go.Shelf Go.Maps

attribute [local go_sem] Oper.semAt_some

/-- the pairs that Each tells of bytes -/
def eachL (b : List UInt8) : List Pr := (pairsR b).getD []
/-- what Each's closure holds -/
structure EachAt (w : World) (Bx G : Nat) (v : Value) (L : List Pr) : Prop where
  box : Boxed w Bx 36 v
  glt : G < w.heap.size
  row : (L = [] ∧ v = .slice none 0 0) ∨ (v = .slice (some ⟨G, 0, none⟩) L.length L.length ∧ RowV w G L)
  len : L.length ≤ 65536
theorem EachAt.kept {w w' : World} {Bx G : Nat} {v : Value} {L : List Pr} (h : EachAt w Bx G v L) (hs : w.heap.size ≤ w'.heap.size) (h1 : w'.heap[Bx]? = w.heap[Bx]?) (h2 : w'.heap[G]? = w.heap[G]?) : EachAt w' Bx G v L :=
  ⟨h1.trans h.box, Nat.lt_of_lt_of_le h.glt hs, h.row.imp id (fun ⟨e, r⟩ => ⟨e, h2.trans r⟩), h.len⟩
theorem EachAt.below {w w' : World} {Bx G : Nat} {v : Value} {L : List Pr} (h : EachAt w Bx G v L) (hB : Below w.heap.size w w') : EachAt w' Bx G v L :=
  h.kept hB.size (hB.block _ h.box.lt) (hB.block _ h.glt)

set_option maxHeartbeats 1000000 in
theorem veach_any (w : World) (a : Option Addr) (n c : Nat) (b : List UInt8) (hb : Bytes w a n b) (hnil : a = none → n = 0) (hcap : n ≤ c) (hn : n ≤ 1000000000) :
    Calls Tryz.prog 87 #[.slice a n c] w fun e w' => ∃ Bx G v, e = .returned (.func (.func 130) #[] #[.pointer (some ⟨Bx, 0, none⟩)]) ∧ EachAt w' Bx G v (eachL b) ∧ w.heap.size ≤ Bx ∧ w.heap.size ≤ G ∧ Below w.heap.size w w' := by
  have hp := pairs_any w a n c b hb hnil hcap hn
  go_enter Tryz.func87, Tryz.ntmps87
  go_wp2_with fail
  refine hp.mono ?_
  rintro e w1 ⟨v, er, rfl, hE, hB⟩
  rcases hE with ⟨h1, rfl, rfl⟩ | ⟨l, G, h1, rfl, rfl, hG, hR⟩
  · have HB : Hid (Below w.heap.size w w1 ∧ eachL b = []) := ⟨hB, by unfold eachL; rw [h1]; rfl⟩
    clear h1 hB hp
    go_wp2
    go_ret
    refine ⟨w1.heap.size, w1.heap.size, .slice none 0 0, rfl, ⟨Boxed.new w1 _ _, by simp, .inl ⟨HB.out.2, rfl⟩, by rw [HB.out.2]; exact Nat.zero_le _⟩, HB.out.1.size, HB.out.1.size, HB.out.1.alloc HB.out.1.size _⟩
  · have HB : Hid (Below w.heap.size w w1 ∧ eachL b = l ∧ w.heap.size ≤ G ∧ RowV w1 G l ∧ l.length ≤ 65536) := ⟨hB, by unfold eachL; rw [h1]; rfl, hG, hR, (pairs_good h1).1.len⟩
    clear h1 hB hR hG hp
    go_wp2
    go_ret
    have hs := HB.out.1.size
    refine ⟨w1.heap.size, G, .slice (some ⟨G, 0, none⟩) l.length l.length, rfl, ?_, hs, HB.out.2.2.1, HB.out.1.alloc hs _⟩
    rw [HB.out.2.1]
    exact ⟨Boxed.new w1 _ _, by have := HB.out.2.2.2.1.lt; simp; omega, .inr ⟨rfl, HB.out.2.2.2.1.below ((Below.refl _ w1).alloc (Nat.le_refl _) _) HB.out.2.2.2.1.lt⟩, HB.out.2.2.2.2⟩

abbrev prE (x : Pr) : Array Value := #[.agg #[.int .u64 (x.1 : Int), .int .u64 (x.2 : Int)]]
set_option maxRecDepth 100000 in
set_option maxHeartbeats 4000000 in
theorem veach_tells (w : World) (Bx G : Nat) (v : Value) (L : List Pr) (h : EachAt w Bx G v L) (n : Nat) (hn : 1 ≤ n) :
    TellsB Fence.wide n Tryz.prog 130 #[.pointer (some ⟨Bx, 0, none⟩)] prE (fun pre x _ => L[pre.length]? = some x) (fun k => k = Bx ∨ k = G) (fun xs => xs = L) w := by
  intro l J Jx W hW hJg hJxg hY h0
  have hE := h.below hW
  obtain ⟨ad, cp, rfl, had⟩ : ∃ ad cp, v = .slice ad L.length cp ∧ (L.length = 0 ∨ ad = some ⟨G, 0, none⟩) := by
    rcases h.row with ⟨e, e2⟩ | ⟨e, _⟩
    · exact ⟨none, 0, by rw [e2, e]; rfl, .inl (by rw [e]; rfl)⟩
    · exact ⟨_, _, e, .inr rfl⟩
  have HE : Hid (EachAt W Bx G (.slice ad L.length cp) L) := hE
  have HY : Hid (∀ pre x W1, J pre W1 → L[pre.length]? = some x → YieldAt Fence.wide (n - 1) Tryz.prog l (prE x) W1 fun e W' => (e = .returned (.bool true) ∧ J (pre ++ [x]) W' ∧ Keep (fun k => k = Bx ∨ k = G) W1 W') ∨ (e = .returned (.bool false) ∧ Jx (pre ++ [x]) W')) := hY
  have H0 : Hid (J [] W ∧ (∀ s X Y, J s X → X.grownBy Y none → J s Y)) := ⟨h0, hJg⟩
  have cB := hE.box.cell
  obtain ⟨N, hN⟩ : ∃ N, N = L.length := ⟨_, rfl⟩
  have HN : Hid (N = L.length ∧ N ≤ 65536) := ⟨hN, by rw [hN]; exact h.len⟩
  rw [← hN] at cB had
  have hN2 : N ≤ 65536 := by rw [hN]; exact h.len
  have HAd : Hid (N = 0 ∨ ad = some ⟨G, 0, none⟩) := had
  clear hN hY h0 hJg hJxg h hW hE had
  refine callsIn_of_wp Tryz.func130 rfl trivial ?_ rfl
  simp only [Tryz.ntmps130, List.size_toArray, List.length_cons, List.length_nil, Nat.reduceAdd, Nat.reduceSub, Array.replicate_succ, Array.replicate_zero, List.push_toArray, List.append_toArray, List.nil_append, List.cons_append]
  gi_wp2
  gi_loopw [7] (fun i wr => ∃ (k : Nat), k ≤ N ∧ i = .int .i64 (k : Int) ∧ Hid (J (L.take k) wr ∧ Keep (fun k => k = Bx ∨ k = G) W wr)) (fun i _ => N - (intOf i).toNat)
  case atStart => exact ⟨0, Nat.zero_le _, rfl, by rw [List.take_zero]; exact H0.out.1, Keep.refl _ _⟩
  case round =>
    obtain ⟨k, hk, rfl, H⟩ := hrel
    by_cases hlt : k < N
    · obtain ⟨⟨x, y⟩, hx⟩ : ∃ x, L[k]? = some x := ⟨_, List.getElem?_eq_getElem (by rw [← HN.out.1]; exact hlt)⟩
      obtain rfl := HAd.out.resolve_left (by omega)
      have hrow : RowV wr G L := by
        rcases HE.out.row with ⟨e, _⟩ | ⟨_, r⟩
        · rw [e] at hx; simp at hx
        · exact (H.out.2.2 G (.inr rfl)).trans r
      obtain ⟨q1, q2⟩ := hrow.cell hx
      have i5 : (k : Int) < (N : Int) := by omega
      have HT : Hid (L.take k ++ [(x, y)] = L.take (k + 1)) := (by rw [List.take_add_one, hx]; rfl : L.take k ++ [(x, y)] = L.take (k + 1))
      have hga : wr.grownBy (wr.alloc (.cells #[.int .u64 (x : Int), .int .u64 (y : Int)] 39)) none := World.grownBy_alloc wr _ none
      have hY1 := HY.out (L.take k) (x, y) _ (H0.out.2 _ _ _ H.out.1 hga) (by rw [List.length_take, Nat.min_eq_left (by rw [← HN.out.1]; exact hk)]; exact hx)
      have HK : Hid (Keep (fun k => k = Bx ∨ k = G) W (wr.alloc (.cells #[.int .u64 (x : Int), .int .u64 (y : Int)] 39))) := H.out.2.trans ⟨hga.size, fun j hj => hga.block j (by
        have h1 := H.out.2.1
        rcases hj with rfl | rfl
        · exact Nat.lt_of_lt_of_le HE.out.box.lt h1
        · exact Nat.lt_of_lt_of_le HE.out.glt h1) (by simp)⟩
      clear hx hrow hga
      obtain ⟨fn, tmps, assign, body, hy, hR⟩ := hY1
      simp only [prE] at hy q1 q2
      gi_wp2_with fail
      refine hR.mono ?_
      clear hR
      rintro e W3 (⟨rfl, hJ3, hk3⟩ | ⟨rfl, hJ3⟩)
      · have HF : Hid (J (L.take (k + 1)) W3 ∧ Keep (fun k => k = Bx ∨ k = G) W W3) := ⟨by rw [← HT.out]; exact hJ3, HK.out.trans hk3⟩
        clear hJ3 hk3 hy
        gi_wp2
        go_roundw
        case rel => exact ⟨k + 1, by omega, by go_num, HF⟩
        case measure => simp [intOf]; omega
      · have HF : Hid (Jx (L.take k ++ [(x, y)]) W3) := hJ3
        clear hJ3 hy
        gi_wp2
        refine bodyPost_ret (results_none rfl _ _ _) rfl ?_
        exact ⟨⟨_, rfl⟩, .inr ⟨_, HF.out⟩⟩
    · obtain rfl : k = N := by omega
      have HJ : Hid (J L wr) := (by have := H.out.1; rwa [List.take_of_length_le (by rw [← HN.out.1]; exact Nat.le_refl _)] at this : J L wr)
      gi_wp2
      go_end0
      exact ⟨⟨_, rfl⟩, .inl ⟨L, rfl, HJ.out⟩⟩
end Go.Proofs.YtdjodigimhgklaaGreatDoor

/- The walk of form. -/
namespace Go.Proofs.YtdjodigimhgklaaGreatDoor
open Go.RowKit Go.Shelf Go.Maps

attribute [local go_sem] Oper.semAt_some

theorem VKeeps.boxV {B : Nat} {W W' : World} {g : Nat} {x y : Int} (h : VKeeps B W W') (hb : BoxV W g x y) (hg : g ≠ B) : BoxV W' g x y := h g _ _ hb (by decide) hg
theorem VOut.lt {w0 W : World} {B : Nat} {l : List UInt8} (h : VOut w0 B l W) : B < W.heap.size := by
  obtain ⟨v, hv, _⟩ := h.box
  exact hv.lt

set_option maxRecDepth 100000 in
set_option maxHeartbeats 4000000 in
theorem vform_any (w : World) (a : Option Addr) (n c : Nat) (l : List Pr) (h : Prs w a n l) (hok : PrOk l) (hn : n ≤ 1000000) :
    Calls Tryz.prog 73 #[.slice a n c] w fun e w' => ∃ ad cp, e = .returned (.slice ad (runB l).length cp) ∧ w'.ownsRow w.heap.size 5 1 (.slice ad (runB l).length cp) (runB l).length (cellsOf (runB l)) ∧ Below w.heap.size w w' := by
  have hmx : Tryz.prog.follows .mixedOrders = true := by kernel_rfl
  have hll := h.1
  have hs := short_len n
  have hp := putUint_any none 0 0 n [] w ⟨rfl, fun h => absurd h (by omega)⟩ (by omega) (by omega)
  simp only [Nat.zero_add, List.nil_append] at hp
  have HG : Hid (∀ (W : World) (v : Value) (m : Nat), W.ownsRow w.heap.size 5 1 v m (cellsOf (short n)) → m ≤ 10 → w.heap.size ≤ W.heap.size → Calls Tryz.prog 108 #[v, .int .i64 ((n : Int) * 16)] W fun e w' => ∃ ad cp, e = .returned (.slice ad m cp) ∧ w'.ownsRow w.heap.size 5 1 (.slice ad m cp) m (cellsOf (short n)) ∧ Below W.heap.size W w') := fun W v m ho hm hB => by
    have := vgrow_any W w.heap.size v m (n * 16) (short n) ho hB (by omega)
    rw [show ((n * 16 : Nat) : Int) = (n : Int) * 16 by omega] at this
    refine this.mono ?_
    rintro e w' ⟨v', rfl, ho', hB'⟩
    obtain ⟨ad, cp, rfl, _⟩ := vrow_shape ho'
    exact ⟨ad, cp, rfl, ho', hB'⟩
  have HS : Hid ((short n).length ≤ 10 ∧ headB l = short n ++ prBytes l) := ⟨hs, by unfold headB; rw [hll]⟩
  clear hs
  go_enter Tryz.func73, Tryz.ntmps73
  go_wp2_with first
    | (go_at_call 109; refine hp.mono ?_; clear hp; rintro e w1 ⟨g, c1, rfl, ho, hg⟩; have H1 : Hid (w1.ownsRow w.heap.size 5 1 (.slice (some ⟨g, 0, none⟩) (short n).length c1) (short n).length (cellsOf (short n)) ∧ Below w.heap.size w w1) := ⟨ho, vgrown_below hg⟩; clear ho hg)
    | (go_at_call 108; refine (HG.out w1 _ _ H1.out.1 HS.out.1 H1.out.2.size).mono ?_; clear HG; rintro e w2 ⟨ad, cp, rfl, ho2, hB2⟩; have H2 : Hid (w2.ownsRow w.heap.size 5 1 (.slice ad (short n).length cp) (short n).length (cellsOf (short n)) ∧ Below w.heap.size w w2) := ⟨ho2, H1.out.2.trans (hB2.mono H1.out.2.size)⟩; clear ho2 hB2 H1)
  have HO : Hid (VOut w w2.heap.size (short n ++ prBytes (l.take 0)) (w2.alloc (.cells #[.slice ad (short n).length cp] 33))) := by
    rw [List.take_zero]
    simp only [prBytes, List.append_nil]
    exact ⟨⟨_, Boxed.new w2 _ _, H2.out.1.alloc _⟩, H2.out.2.alloc H2.out.2.size _, H2.out.2.size⟩
  generalize w2.alloc (.cells #[.slice ad (short n).length cp] 33) = w3 at *
  generalize w2.heap.size = B at *
  go_loopw [18] (fun i wr => ∃ k : Nat, k ≤ n ∧ i = .int .i64 (k : Int) ∧ Hid (VOut w B (short n ++ prBytes (l.take k)) wr)) (fun i _ => n - (intOf i).toNat)
  case atStart => exact ⟨0, Nat.zero_le _, rfl, HO⟩
  case round =>
    clear H2 HO
    obtain ⟨k, hk, rfl, H⟩ := hrel
    by_cases hlt : k < n
    · obtain ⟨⟨x, y⟩, hx⟩ : ∃ x, l[k]? = some x := ⟨_, List.getElem?_eq_getElem (by rw [h.1]; exact hlt)⟩
      obtain ⟨b1, o1, rfl, hc1⟩ := h.2 (by omega)
      obtain ⟨t1, t2⟩ := hc1 k _ hx
      have q1 := (H.out.bel.cell (p := ⟨b1, o1 + k * 2, none⟩) (World.block_lt_of_cell? w _ t1)).trans t1
      have q2 := (H.out.bel.cell (p := ⟨b1, o1 + k * 2 + 1, none⟩) (World.block_lt_of_cell? w _ t2)).trans t2
      have i2 : (k : Int) < (n : Int) := by omega
      have hxy := hok _ (List.mem_of_getElem? hx)
      have hb0 : BoxV (wr.alloc (.cells #[.int .u64 (x : Int), .int .u64 (y : Int)] 39)) wr.heap.size x y := BoxV.new wr _ _
      have HE : Hid (VOut w B (short n ++ prBytes (l.take k)) (wr.alloc (.cells #[.int .u64 (x : Int), .int .u64 (y : Int)] 39)) ∧ BoxV (wr.alloc (.cells #[.int .u64 (x : Int), .int .u64 (y : Int)] 39)) wr.heap.size x y ∧ wr.heap.size ≠ B ∧ (short n ++ prBytes (l.take k)).length ≤ 20000000 ∧ short n ++ prBytes (l.take (k + 1)) = short n ++ prBytes (l.take k) ++ wide x ++ wide y) := by
        refine ⟨H.out.alloc _, hb0, by have := H.out.lt; omega, ?_, ?_⟩
        · rw [List.length_append, prBytes_len, List.length_take]
          have := HS.out.1
          omega
        · rw [take_getV hx, prBytes_app]
          simp only [prBytes, List.append_nil, List.append_assoc]
      simp only at q1 q2 hxy
      obtain ⟨hx1, hy1⟩ := hxy
      clear hc1 t1 t2 hx h H hb0
      generalize short n ++ prBytes (l.take k) = L at *
      obtain ⟨bp, hbp⟩ : ∃ bp, bp = wr.heap.size := ⟨_, rfl⟩
      go_wp2_with first
        | (go_at_call 110; refine (vput_any w B L x _ HE.out.1 hx1 (by have := HE.out.2.2.2.1; omega)).mono ?_; rintro e w4 ⟨rfl, hO4, hK4⟩; have H4 : Hid (VOut w B (L ++ wide x) w4 ∧ BoxV w4 wr.heap.size x y) := ⟨hO4, hK4.boxV HE.out.2.1 HE.out.2.2.1⟩; clear hO4 hK4; obtain ⟨c41, c42⟩ := H4.out.2.cell)
        | (go_at_call 110; refine (vput_any w B (L ++ wide x) y _ H4.out.1 hy1 (by have := HE.out.2.2.2.1; rw [List.length_append, vwide_len]; omega)).mono ?_; rintro e w5 ⟨rfl, hO5, hK5⟩; have H5 : Hid (VOut w B (L ++ wide x ++ wide y) w5) := hO5; clear hO5 hK5)
      go_roundw
      case rel => exact ⟨k + 1, by omega, by go_num, by rw [HE.out.2.2.2.2]; exact H5.out⟩
      case measure => simp [intOf]; omega
    · obtain rfl : k = n := by omega
      have HF : Hid (VOut w B (headB l) wr) := by
        have e := H.out
        rw [List.take_of_length_le (by rw [h.1]; exact Nat.le_refl _), ← HS.out.2] at e
        exact e
      have HN : Hid ((headB l).length ≤ 20000000) := by
        show _ ≤ _
        rw [HS.out.2, List.length_append, prBytes_len]
        have := HS.out.1
        omega
      clear H
      go_upto_region 9 with fail
      obtain ⟨v, hv, ho⟩ := HF.out.box
      obtain ⟨ad, cp, rfl, _⟩ := vrow_shape ho
      have HV : Hid (Boxed wr B 33 (.slice ad (headB l).length cp) ∧ Bytes wr ad (headB l).length (headB l) ∧ Below w.heap.size w wr) := ⟨hv, vrow_bytes ho, HF.out.bel⟩
      have cv := hv.cell
      have HR : Hid (runB l = headB l ++ wide (vhashN (headB l)) ∧ hashTo (headB l) (headB l).length = (vhashN (headB l) : Int) ∧ vhashN (headB l) < 18446744073709551616) := ⟨rfl, vhashN_int _ _ rfl, vhashN_lt _⟩
      clear hv ho HF h hok
      generalize vhashN (headB l) = vh at *
      generalize headB l = A at *
      generalize hN : A.length = N at *
      refine wp_region_G (S := SB 1000 (fun _ => True) (fun Y => Y.cell? ⟨B, 0, none⟩ = some (.slice ad N cp))) hmx ?_
      have hSB : SB 1000 (fun _ => True) (fun Y => Y.cell? ⟨B, 0, none⟩ = some (.slice ad N cp)) (Array.replicate 5 false) wr.drew := SB.on trivial cv
      refine wpAnyG_takeP (i := 0) (v := ?_) rfl (by kernel_rfl) (by kernel_rfl) (by kernel_rfl) (fun _ _ _ h => h) rfl (Or.inl ⟨by rfl, ?_⟩) (by assumption) ?_
      rotate_left
      · intro Y hY; have y0 := hY; go_simp; try with_reducible rfl
      intro hSB0
      try simp only [Act.put, List.getElem_toArray, List.getElem_cons_zero, List.setIfInBounds_toArray, List.set_cons_zero, List.set_cons_succ]
      refine wpAnyG_takeP (i := 1) (v := ?_) rfl (by kernel_rfl) (by kernel_rfl) (by kernel_rfl) (fun _ _ _ h => h) rfl (Or.inl ⟨by rfl, ?_⟩) (by assumption) ?_
      rotate_left
      · intro Y hY; have y0 := hY; go_simp; try with_reducible rfl
      intro hSB1
      try simp only [Act.put, List.getElem_toArray, List.getElem_cons_zero, List.getElem_cons_succ, List.setIfInBounds_toArray, List.set_cons_zero, List.set_cons_succ]
      refine wpAnyG_one (i := 2) (by kernel_rfl) rfl (fun K hK => ?_)
      have hBd : Below wr.heap.size wr wr.drew := ⟨rfl, rfl, rfl, Nat.le_refl _, fun _ _ => rfl⟩
      refine vstep_hash _ (by rfl) _ _ (by rfl) _ (by rfl) (fun v W => v = .int .u64 (vh : Int) ∧ W = wr.drew) ((hash_any ad N cp A wr.drew (vbytes_below HV.out.2.1 hBd) (by unfold maxLen; have := HN.out; omega)).mono (fun e w' h => ⟨_, h.1, by rw [HR.out.2.1], h.2⟩)) ?_
      rintro v w6 ⟨rfl, rfl⟩
      refine hK.out _ _ (SB.on trivial cv) (fun hSB2 => ?_)
      clear hK K
      try simp only [Act.put, List.getElem_toArray, List.getElem_cons_zero, List.getElem_cons_succ, List.setIfInBounds_toArray, List.set_cons_zero, List.set_cons_succ]
      refine wpAnyG_one (i := 3) (by kernel_rfl) rfl (fun K hK => ?_)
      refine vstep_putWord _ (by rfl) _ _ _ _ (by rfl) _ _ (by rfl) (by rfl) (fun v W => ∃ g c, v = .slice (some ⟨g, 0, none⟩) (N + 8) c ∧ W.ownsRow wr.heap.size 5 1 (.slice (some ⟨g, 0, none⟩) (N + 8) c) (N + 8) (cellsOf (A ++ wide vh)) ∧ Below wr.heap.size wr W) ((putWord_any ad N cp vh A wr.drew (vbytes_below HV.out.2.1 hBd) (by have := HN.out; omega) HR.out.2.2).mono (fun e w' ⟨g, c, h1, h2, h3⟩ => ⟨_, h1, g, c, rfl, h2, hBd.trans (vgrown_below h3)⟩)) ?_
      rintro v w7 ⟨g, c7, rfl, ho7, hB7⟩
      refine hK.out _ _ (SB.on trivial ((hB7.cell (World.block_lt_of_cell? wr _ cv)).trans cv)) (fun hSB3 => ?_)
      clear hK K
      try simp only [Act.put, List.getElem_toArray, List.getElem_cons_zero, List.getElem_cons_succ, List.setIfInBounds_toArray, List.set_cons_zero, List.set_cons_succ]
      refine wpAnyG_takeP (i := 4) (v := ?_) rfl (by kernel_rfl) (by kernel_rfl) (by kernel_rfl) (fun _ _ _ h => h) rfl (Or.inl ⟨by rfl, ?_⟩) (by assumption) ?_
      rotate_left
      · intro Y _; go_simp; try with_reducible rfl
      intro hSB4
      try simp only [Act.put, List.getElem_toArray, List.getElem_cons_zero, List.getElem_cons_succ, List.setIfInBounds_toArray, List.set_cons_zero, List.set_cons_succ]
      refine wpAnyG_done (by kernel_rfl) ?_ _
      clear hSB hSB0 hSB1 hSB2 hSB3 hSB4
      go_wp2
      go_ret
      have e : N + 8 = (runB l).length := by rw [HR.out.1, List.length_append, vwide_len, hN]
      rw [← e, HR.out.1]
      refine ⟨_, _, rfl, ?_, HV.out.2.2.trans (hB7.mono HV.out.2.2.size)⟩
      have hb := HV.out.2.2.size
      refine ⟨ho7.1, ho7.2.imp id ?_⟩
      rintro ⟨g', cap, cur, h1, h2, h3⟩
      exact ⟨g', cap, cur, h1, by omega, h3⟩
end Go.Proofs.YtdjodigimhgklaaGreatDoor
