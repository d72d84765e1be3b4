/- The walk of the look whether a Journal has just these records, where it has. -/
import Derived.Test.YtjbifbfhlmdlbaaJEach
import Derived.Test.YtjbifbfhlmdlbaaRangeQuiet
namespace Go.Proofs.Ytjbifbfhlmdlbaa
open Go.RowKit Go.Shelf

attribute [local go_sem] Oper.semAt_some

/-- a slice of n slices of bytes that leads to these lists -/
def Slices (w : World) (a : Option Addr) (n : Nat) (ls : List (List UInt8)) : Prop :=
  ls.length = n ∧ ∀ k, k < n → ∃ b off x m c, a = some ⟨b, off, none⟩ ∧ w.cell? ⟨b, off + k, none⟩ = some (.slice x m c) ∧ Bytes w x m (rc ls k)

theorem Slices.turn {w w' : World} {a : Option Addr} {n : Nat} {ls : List (List UInt8)} (h : Slices w a n ls) (hB : Below w.heap.size w w') : Slices w' a n ls := by
  refine ⟨h.1, fun k hk => ?_⟩
  obtain ⟨b, off, x, m, c, h1, h2, h3⟩ := h.2 k hk
  exact ⟨b, off, x, m, c, h1, (hB.cell (p := ⟨b, off + k, none⟩) (World.block_lt_of_cell? w _ h2)).trans h2, (Turn.of_below (fun _ => False) hB).bytes h3 (fun _ _ _ => id)⟩

set_option maxRecDepth 100000 in
set_option maxHeartbeats 4000000 in
theorem holds_any (w : World) (j d : Nat) (nm : ByteArray) (rs : List (List UInt8)) (sz : Nat) (cut : Bool) (Fp : Nat → Prop) (h : JAt w j d nm rs sz cut Fp) (a : Option Addr) (c : Nat) (hl : Slices w a rs.length rs) :
    Calls Try.prog 15 #[.pointer (some ⟨j, 0, none⟩), .slice a rs.length c] w fun e w' => e = .returned (.bool true) ∧ Below w.heap.size w w' := by
  refine (callsIn_wide (n := 5)).1 ?_
  refine callsIn_of_wp_marks Try.func15 rfl trivial ?_ rfl
  simp only [Try.ntmps15, List.size_toArray, List.length_cons, List.length_nil, Nat.reduceAdd, Nat.reduceSub, Array.replicate_succ, Array.replicate_zero, List.push_toArray, List.append_toArray, List.nil_append, List.cons_append]
  obtain ⟨N, hN⟩ : ∃ N, N = rs.length := ⟨_, rfl⟩
  have HN : Hid (N = rs.length) := hN
  rw [← hN] at hl ⊢
  have hmx : Try.prog.follows .mixedOrders = true := by kernel_rfl
  refine wpIn_wide.2 ?_
  obtain ⟨w1, hw1⟩ : ∃ w1, w1 = ((w.alloc (.cells #[.slice a N c] 26)).alloc (.cells #[.bool false] 4)).drew := ⟨_, rfl⟩
  have hBw : Below w.heap.size w w1 := by
    have := ((Below.refl w.heap.size w).alloc (Nat.le_refl _) (.cells #[.slice a N c] 26)).alloc (by simp) (.cells #[.bool false] 4)
    rw [hw1]; exact ⟨this.os, this.tape, this.output, this.size, this.block⟩
  have hs1 : w1.heap.size = w.heap.size + 2 := by rw [hw1]; simp
  have h1 := h.below hBw
  have hlen1 := jlen_any w1 j d nm rs sz cut Fp h1
  rw [← hN] at hlen1
  have bL : Boxed w1 w.heap.size 26 (.slice a N c) := by rw [hw1]; exact (Boxed.new w _ _).alloc _
  have bR : Boxed w1 (w.heap.size + 1) 4 (.bool false) := by
    have := Boxed.new (w.alloc (.cells #[.slice a N c] 26)) 4 (.bool false)
    rw [World.size_alloc] at this
    rw [hw1]; exact this
  have cL := bL.cell
  clear hN
  rw [hw1] at hlen1
  go_wp2_with fail
  go_region_held3 (fun W => W.cell? ⟨w.heap.size, 0, none⟩ = some (.slice a N c))
    (first
      | (go_split_ands; go_keep)
      | (rw [← hw1]; exact cL))
    ((go_at_call 21; refine hlen1.mono ?_; rintro e w' ⟨rfl, rfl⟩))
  rw [← hw1]
  clear hw1 hlen1
  go_wp2_with fail
  refine (each_any _ _).mono ?_
  rintro e w' ⟨rfl, rfl⟩
  go_wp2_with fail
  obtain ⟨w3, hw3⟩ : ∃ w3, w3 = (w1.alloc (.cells #[.int .i64 0] 3)).alloc (.cells #[.pointer (some ⟨j, 0, none⟩)] 30) := ⟨_, rfl⟩
  have hB13 : Below w1.heap.size w1 w3 := by rw [hw3]; exact ((Below.refl _ w1).alloc (Nat.le_refl _) _).alloc (by simp) _
  have hs3 : w3.heap.size = w.heap.size + 4 := by rw [hw3]; simp; omega
  have bN3 : Boxed w3 (w.heap.size + 2) 3 (.int .i64 0) := by
    have := (Boxed.new w1 3 (.int .i64 0)).alloc (.cells #[.pointer (some ⟨j, 0, none⟩)] 30)
    rw [hs1] at this
    rw [hw3]; exact this
  have bE3 : Boxed w3 (w.heap.size + 3) 30 (.pointer (some ⟨j, 0, none⟩)) := by
    have := Boxed.new (w1.alloc (.cells #[.int .i64 0] 3)) 30 (.pointer (some ⟨j, 0, none⟩))
    rw [World.size_alloc, hs1] at this
    rw [hw3]; exact this
  have bL3 : Boxed w3 w.heap.size 26 (.slice a N c) := (hB13.block _ bL.lt).trans bL
  have bR3 : Boxed w3 (w.heap.size + 1) 4 (.bool false) := (hB13.block _ bR.lt).trans bR
  have hBw3 : Below w.heap.size w w3 := hBw.trans (hB13.mono (by omega))
  have h3 := h.below hBw3
  rw [← hw3]
  clear hw3
  refine (wpIn_wide (n := 5)).1 ?_
  refine range_told (w := w3) rfl (by omega) (gf := 38) (lb := #[.pointer (some ⟨w.heap.size + 2 + 1, 0, none⟩)]) rfl trivial (enters_of Try.func38 (by kernel_rfl) rfl)
    (each_tells w3 j d nm rs sz cut Fp h3 (w.heap.size + 2 + 1) bE3.cell 4 (by omega)) (fun _ => rfl) (fun k hk => hk.elim (h3.lt k) (fun e => by omega))
    (fun pre W => (Boxed W (w.heap.size + 2) 3 (.int .i64 (pre.length : Int)) ∧ Boxed W w.heap.size 26 (.slice a N c) ∧ Boxed W (w.heap.size + 1) 4 (.bool false)) ∧ Below w.heap.size w W)
    (OwnFrom.and (OwnFrom.and (Own.from (boxed_own _ _ (fun pre : List Rec => .int .i64 (pre.length : Int))) _) (OwnFrom.and (Own.from (boxed_own _ _ (fun _ : List Rec => .slice a N c)) _) (Own.from (boxed_own _ _ (fun _ : List Rec => .bool false)) _))) (ownFrom_below (Nat.le_refl _) (by omega)))
    ?px ⟨⟨bN3, bL3, bR3⟩, hBw3⟩
    (fun x => { tmps := #[.pointer (some ⟨j, 0, none⟩), .slice a N c, undef, .pointer (some ⟨w.heap.size, 0, none⟩), .pointer (some ⟨w.heap.size + 1, 0, none⟩), .pointer (some ⟨w.heap.size + 2, 0, none⟩), .int .i64 (x.k : Int), .slice x.a x.l.length x.c, undef, undef, undef, undef, undef, undef, undef, undef, .pointer (some ⟨j, 0, none⟩), .int .i64 (N : Int), .slice a N c, .int .i64 (N : Int), .bool false, .pointer (some ⟨j, 0, none⟩), .func (.func 38) #[] #[.pointer (some ⟨w.heap.size + 2 + 1, 0, none⟩)], .int .i64 (x.k : Int), .slice x.a x.l.length x.c, undef, undef, undef, undef, undef, undef, undef, undef, undef, undef, undef, undef, undef, undef, undef, undef, undef, undef, undef, undef, undef, undef, undef, undef, undef, undef, undef, undef, undef, undef, undef, undef, undef, undef, undef, undef, undef, undef, undef, undef, undef, undef, undef, undef, undef, undef, undef, undef, undef, undef, undef, undef, undef, undef, undef, undef, undef, undef, undef, undef, undef, undef, undef, undef, undef, undef, undef, undef, undef, undef, undef, undef, undef, undef, undef, undef], defers := [] }) ?assign ?body ?done
  case px =>
    intro pre x s X Y row hs hg hr
    exact ⟨hs.1, hs.2.1, hs.2.2.1, hs.2.2.2.1, fun h0 => by
      obtain ⟨b, off, e, hc⟩ := hs.2.2.2.2 h0
      exact ⟨b, off, e, fun i hi => cell_kept (hc i hi) hg (fun r e => (hr r e).2)⟩⟩
  case assign =>
    intro l x W K hK
    gi_wp2
    exact hK
  case body =>
    rintro l pre ⟨k, lx, ax, cx⟩ W hl3 ⟨⟨bN, bL', bR'⟩, hBW⟩ ⟨hxk, hxlt, hxl, hxb⟩
    simp only at hxk hxlt hxl hxb ⊢
    rw [← hxk] at bN
    have HX : Hid (k = pre.length) := hxk
    clear hxk
    have hlW := hl.turn hBW
    obtain ⟨b, off, y, m, cy, rfl, hcy, hby⟩ := hlW.2 k (by rw [HN.out]; exact hxlt)
    have cN := bN.cell
    have fN := bN.frozen
    have cL' := bL'.cell
    have r1 : ∀ q, (convert 22 9 (.slice ax lx.length cx)).run Try.prog (W.drewN q) = .ok (.string ⟨lx.toArray⟩) (W.drewN q) := fun q => run_string (W.drewN q) ax lx.length cx lx ⟨hxb.1, hxb.2⟩
    have r2 : ∀ q, (convert 22 9 (.slice y m cy)).run Try.prog (W.drewN q) = .ok (.string ⟨lx.toArray⟩) (W.drewN q) := fun q => by
      rw [hxl]; exact run_string (W.drewN q) y m cy (rc rs k) ⟨hby.1, hby.2⟩
    have i1 : (k : Int) < (N : Int) := by have := HN.out; omega
    have i2 : ¬ N ≤ k := by omega
    have hd : 1 ≤ 5 - 1 - 1 := by omega
    have HB : Hid (Below w.heap.size w W ∧ Boxed W (w.heap.size + 2) 3 (.int .i64 (k : Int)) ∧ Boxed W w.heap.size 26 (.slice (some ⟨b, off, none⟩) N c) ∧ Boxed W (w.heap.size + 1) 4 (.bool false)) := ⟨hBW, bN, bL', bR'⟩
    have hN0 : (N : Int) ≤ 4194304 := by have h1 := h.cnt; have h2 := h.small; have := HN.out; omega
    have hFlt : ∀ i, Fp i → i < w.heap.size := h.lt
    clear hlW hby hxb hl bN bL' bR' hBW hxl h h1 h3 bN3 bL3 bR3 bE3 bL bR cL hB13 hBw hBw3
    gi_wp2
    refine region_quiet_round (F := Fence.wide) rfl hmx (by kernel_rfl) (by kernel_rfl) ?_
    repeat (gi_big_quiet_step (fail))
    refine wpQuietIn_nil ?_
    rintro _ ⟨nq, rfl⟩
    gi_wp2
    have hk0 := KeepsOthers.setCell (W.drewN nq) ⟨w.heap.size + 2, 0, none⟩ (.int .i64 ((k : Int) + 1))
    have hk1 := hk0.from (w.heap.size + 4)
    have b0 : Boxed (W.drewN nq) (w.heap.size + 2) 3 (.int .i64 (k : Int)) := HB.out.2.1
    have b1 : Boxed (W.drewN nq) w.heap.size 26 (.slice (some ⟨b, off, none⟩) N c) := HB.out.2.2.1
    have b2 : Boxed (W.drewN nq) (w.heap.size + 1) 4 (.bool false) := HB.out.2.2.2
    have hb0 : Below w.heap.size w (W.drewN nq) := ⟨HB.out.1.os, HB.out.1.tape, HB.out.1.output, HB.out.1.size, HB.out.1.block⟩
    refine ⟨⟨hk1.size, hk1.same⟩, ⟨hk1.size, fun i hi => Below.heap_setCell _ _ _ _ (fun e => ?_)⟩, ⟨?_, b1.other (by omega) _, b2.other (by omega) _⟩, hb0.setCell (p := ⟨w.heap.size + 2, 0, none⟩) (by simp) _⟩
    · have e' : i = w.heap.size + 2 := e
      rcases hi with hi | hi
      · have := hFlt i hi; omega
      · omega
    · rw [← HX.out]; exact b0.set _
  case done =>
    rintro D xs W hD hS ⟨⟨bN, bL', bR'⟩, hBW⟩ hK
    have cN := bN.cell
    rw [hS.1, ← HN.out] at cN
    have cL' := bL'.cell
    have cR' := bR'.cell
    have fR' := bR'.frozen
    have hJW := h.below hBW
    have hlW := hl.turn hBW
    have HB : Hid (Below w.heap.size w W ∧ W.heap[D]? = some (.deferred (some [])) ∧ w.heap.size + 4 ≤ D) := ⟨hBW, hK, by omega⟩
    have hsm := hJW.small
    have hcnt := hJW.cnt
    have hN0 : N ≤ 4194304 := by have := HN.out; omega
    clear bN bL' bR' hBW hK h h1 h3 bN3 bL3 bR3 bE3 bL bR cL hB13 hBw hBw3 hl hS xs
    go_wp2_with fail
    go_loopw [48] (fun i wr => ∃ k : Nat, k ≤ N ∧ i = .int .i64 k ∧ Hid (Below W.heap.size W wr)) (fun i _ => N - (intOf i).toNat)
    case atStart => exact ⟨0, Nat.zero_le _, rfl, Below.refl _ _⟩
    case round =>
      obtain ⟨k, hk, rfl, HT⟩ := hrel
      by_cases hlt : k < N
      · have hkn : k < rs.length := by rw [← HN.out]; exact hlt
        obtain ⟨b, off, y, m, cy, rfl, hcy, hby⟩ := (hlW.turn HT.out).2 k hlt
        have i1 : (k : Int) < (N : Int) := by omega
        have hx := jrecord_yes wr j d nm rs sz cut Fp (hJW.below HT.out) k hkn
        have Hby : Hid (Bytes wr y m (rc rs k)) := hby
        clear hby
        go_wp2_with fail
        refine hx.mono ?_
        clear hx
        rintro e w5 ⟨ar, cr, rfl, hbr, hB5⟩
        have r1 := run_string w5 ar _ cr _ hbr
        have r2 := run_string w5 y m cy (rc rs k) ((Turn.of_below (fun _ => False) hB5).bytes Hby.out (fun _ _ _ => id))
        have HT5 : Hid (Below W.heap.size W w5) := HT.out.trans (hB5.mono HT.out.size)
        clear hbr hB5
        go_wp2
        go_roundw
        case rel => exact ⟨k + 1, by omega, by go_num, HT5⟩
        case measure => simp [intOf]; omega
      · obtain rfl : k = N := by omega
        have cN5 : wr.cell? ⟨w.heap.size + 2, 0, none⟩ = some (.int .i64 (k : Int)) := (HT.out.cell (p := ⟨w.heap.size + 2, 0, none⟩) (World.block_lt_of_cell? W _ cN)).trans cN
        have hx1 := jrecord_no wr j d nm rs sz cut Fp (hJW.below HT.out) (-1) (.inl (by omega))
        go_wp2_with fail
        refine hx1.mono ?_
        clear hx1
        rintro e w5 ⟨rfl, hB5⟩
        have hx2 := jrecord_no w5 j d nm rs sz cut Fp ((hJW.below HT.out).below hB5) (k : Int) (.inr (by rw [HN.out]; exact Int.le_refl _))
        have HT5 : Hid (Below W.heap.size W w5) := HT.out.trans (hB5.mono HT.out.size)
        have cL5 : w5.cell? ⟨w.heap.size, 0, none⟩ = some (.slice a k c) := (HT5.out.cell (p := ⟨w.heap.size, 0, none⟩) (World.block_lt_of_cell? W _ cL')).trans cL'
        clear hB5
        go_wp2_with fail
        refine hx2.mono ?_
        clear hx2
        rintro e w6 ⟨rfl, hB6⟩
        have HT6 : Hid (Below W.heap.size W w6) := HT5.out.trans (hB6.mono HT5.out.size)
        have old : ∀ {a : Addr} {v : Value}, W.cell? a = some v → w6.cell? a = some v := fun hc => (HT6.out.cell (World.block_lt_of_cell? W _ hc)).trans hc
        have cL6 : w6.cell? ⟨w.heap.size, 0, none⟩ = some (.slice a k c) := old cL'
        have cN6 : w6.cell? ⟨w.heap.size + 2, 0, none⟩ = some (.int .i64 (k : Int)) := old cN
        have cR6 : w6.cell? ⟨w.heap.size + 1, 0, none⟩ = some (.bool false) := old cR'
        have fR6 : w6.frozen? ⟨w.heap.size + 1, 0, none⟩ = false := by
          rw [World.frozen?_of_block (HT6.out.block _ (World.block_lt_of_cell? W ⟨w.heap.size + 1, 0, none⟩ cR'))]; exact fR'
        clear hB6 old cL5 cN5 cL' cN cR' fR' hlW hJW
        go_wp2_with fail
        obtain ⟨hBW, hKW, hD4⟩ := HB.out
        have hDlt : D < W.heap.size := (Array.getElem?_eq_some_iff.1 hKW).1
        have hK6 : (w6.setCell ⟨w.heap.size + 1, 0, none⟩ (.bool true)).heap[D]? = some (.deferred (some [])) := by
          rw [Below.heap_setCell _ _ _ _ (by show D ≠ w.heap.size + 1; omega), HT6.out.block D hDlt]; exact hKW
        have hc6 : ((w6.setCell ⟨w.heap.size + 1, 0, none⟩ (.bool true)).putObj D (.deferred none)).cell? ⟨w.heap.size + 1, 0, none⟩ = some (.bool true) :=
          cell_kept (World.cell?_setCell_same _ _ _ cR6) (grownBy_putObj' _ D (.deferred none)) (fun r e => by cases e; exact ⟨_, hK6, rfl⟩)
        have hB6 : Below w.heap.size w (w6.setCell ⟨w.heap.size + 1, 0, none⟩ (.bool true)) := (hBW.trans (HT6.out.mono hBW.size)).setCell (p := ⟨w.heap.size + 1, 0, none⟩) (by simp) _
        refine ⟨by simp, .inl ⟨_, _, rfl, run_takeDeferred hK6, ?_⟩⟩
        refine ⟨.bool true, ?_, rfl, hB6.trans (belowK_b (w := w) (Nat.le_refl _) _ D _ _ (by omega) hK6 rfl rfl)⟩
        simp [results, Try.results15, go_sem, hc6]

end Go.Proofs.Ytjbifbfhlmdlbaa
