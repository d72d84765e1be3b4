import Derived.Test.YtggnglgehobglaaGreatDoorT23
import Derived.Test.YtggnglgehobglaaGreatDoorT05
/- What pieces tells, to a body that may speak of how much was drawn (gend.py, out of NPieces). -/
namespace Go.Proofs.YtggnglgehobglaaGreatDoor
open Go.RowKit Go.Shelf

attribute [local go_sem] Oper.semAt_some

theorem PInv.nextD {s : ByteArray} {B it : Nat} {J : List (Pc s) → World → Prop} {b p : Nat} {pre : List (Pc s)} {wr : World} (h : PInv s B it J b p pre wr) (hJ : AbidesD it J) (hit : wr.heap[it]? = some (.stringIter s p)) (p' : Nat) :
    J pre (wr.putObj it (.stringIter s p')) ∧ Boxed (wr.putObj it (.stringIter s p')) B 9 (.string s) :=
  ⟨hJ pre wr _ (some it) h.j (grownBy_putObj' wr it _) rfl (fun r e => by cases e; exact ⟨Nat.le_refl _, _, hit, rfl⟩), (World.putObj_heap_other h.ne).trans h.box⟩

set_option maxRecDepth 100000 in
set_option maxHeartbeats 4000000 in
theorem pieces_tellsD (s : ByteArray) (hs : s.size ≤ maxLen) (w : World) (B : Nat) (hB : Boxed w B 9 (.string s)) (n : Nat) (hn : 1 ≤ n) :
    TellsD Fence.wide n Tryz.prog 94 #[.pointer (some ⟨B, 0, none⟩)] Pc.encs B (fun xs : List (Pc s) => xs.map Pc.at = pcs (bs s)) (fun pre : List (Pc s) => ∃ rest, pre.map Pc.at ++ rest = pcs (bs s)) w := by
  intro l J Jx W hW hJ hY h0
  have hs' : s.size ≤ 9223372036854775807 := by unfold maxLen at hs; omega
  have hBW : Boxed W B 9 (.string s) := (hW.block B hB.lt).trans hB
  have cB := hBW.cell
  refine callsIn_of_wp Tryz.func94 rfl trivial ?_ rfl
  simp only [Tryz.ntmps94, List.size_toArray, List.length_cons, List.length_nil, Nat.reduceAdd, Nat.reduceSub, Array.replicate_succ, Array.replicate_zero, List.push_toArray, List.append_toArray, List.nil_append, List.cons_append]
  by_cases hz : s.toList = []
  · gi_wp2
    refine bodyPost_ret (results_none rfl _ _ _) rfl ?_
    exact ⟨⟨_, rfl⟩, .inl ⟨[], by rw [toList_bs] at hz; rw [hz]; rfl, h0⟩⟩
  · have b1 : s.toList.isEmpty = false := by simpa using hz
    have hBlt := hBW.lt
    have H0 : Hid (PInv s B W.heap.size J 0 0 [] (W.iter s 0)) :=
      ⟨hJ [] W _ none h0 (World.grownBy_alloc W _ none) rfl (fun r e => by cases e), hBW.alloc _, by rw [toList_bs] at hz; simp [pcs, parts, hz], Nat.ne_of_lt hBlt⟩
    have HJ : Hid (AbidesD W.heap.size J) := hJ
    have HY : Hid (∀ pre x W1, J pre W1 → (∃ rest, (pre ++ [x]).map Pc.at ++ rest = pcs (bs s)) → YieldAt Fence.wide (n - 1) Tryz.prog l (Pc.encs x) W1 fun e W' => (e = .returned (.bool true) ∧ J (pre ++ [x]) W' ∧ KpB B W1 W') ∨ (e = .returned (.bool false) ∧ Jx (pre ++ [x]) W')) := hY
    clear hY hJ h0 hW hz
    gi_wp2
    gi_loopw [3] (fun v wr => ∃ (b p : Nat) (pre : List (Pc s)), b ≤ p ∧ p ≤ s.size ∧ v = .int .i64 (b : Int) ∧ wr.heap[W.heap.size]? = some (.stringIter s p) ∧ Hid (PInv s B W.heap.size J b p pre wr)) (fun _ wr => s.size - wr.iterPos W.heap.size)
    case atStart => exact ⟨0, 0, [], Nat.le_refl _, Nat.zero_le _, rfl, World.iter_heap _ _ _, H0⟩
    case round =>
      clear H0 cB
      obtain ⟨b, p, pre, hb, hp, rfl, hit, H⟩ := hrel
      by_cases hlt : p < s.size
      · obtain ⟨r, hr⟩ : ∃ r, r = (dec ((bs s).drop p)).1 := ⟨_, rfl⟩
        obtain ⟨d, hd⟩ : ∃ d, d = (dec ((bs s).drop p)).2 := ⟨_, rfl⟩
        have hne : (bs s).drop p ≠ [] := fun e => by
          have := congrArg List.length e
          rw [List.length_drop, bs_len] at this; simp at this; omega
        have hd1 : 1 ≤ d := by rw [hd]; exact dec_pos _
        have hd2 : p + d ≤ s.size := by
          have := dec_le _ hne
          rw [← hd, List.length_drop, bs_len] at this; omega
        have hdec : Utf8.decode s p = (r, d) := by rw [decode_dec, hr, hd]; rfl
        have hrle : r ≤ 2147483647 := by have := decode_le s p; rw [hdec] at this; exact this
        have hnx := run_next_at (P := Tryz.prog) wr W.heap.size s p hit hlt
        rw [hdec] at hnx
        have H2 := H.out.nextD HJ.out hit (p + d)
        have hit2 : (wr.putObj W.heap.size (.stringIter s (p + d))).heap[W.heap.size]? = some (.stringIter s (p + d)) := World.putObj_heap_same (Array.getElem?_eq_some_iff.1 hit).1
        have Hpos : Hid (wr.iterPos W.heap.size = p) := iterPos_of hit
        simp only at hnx
        obtain ⟨W2, hW2⟩ : ∃ W2, W2 = wr.putObj W.heap.size (.stringIter s (p + d)) := ⟨_, rfl⟩
        rw [← hW2] at hnx H2 hit2
        have Hn : Hid ((bs s).drop p ≠ []) := hne
        have Hr : Hid (r = (dec ((bs s).drop p)).1) := hr
        have Hd : Hid (d = (dec ((bs s).drop p)).2) := hd
        have HH2 : Hid (J pre W2 ∧ Boxed W2 B 9 (.string s)) := H2
        have cB := H2.2.cell
        clear hne hr hd hdec hW2 H2 hit
        by_cases h47 : r = 47
        · subst h47
          simp only [show ((47 : Nat) : Int) = 47 from rfl] at hnx
          have hxb : b + (s.extract b p).size ≤ s.size := by simp; omega
          have HS := H.out.stroke hb hlt Hr.out.symm Hd.out ⟨(b, s.extract b p), hxb⟩ rfl
          have hlen : ∃ rest, (pre ++ [(⟨(b, s.extract b p), hxb⟩ : Pc s)]).map Pc.at ++ rest = pcs (bs s) := ⟨_, HS.2.symm⟩
          have hY2 := HY.out pre ⟨(b, s.extract b p), hxb⟩ W2 HH2.out.1 hlen
          have HS' : Hid (pcs (bs s) = (pre ++ [(⟨(b, s.extract b p), hxb⟩ : Pc s)]).map Pc.at ++ offs (p + 1) (cutS (((bs s).take (p + 1)).drop (p + 1)) ((bs s).drop (p + 1)))) := HS.2
          have hd1' := HS.1
          clear HS hlen
          obtain ⟨fn, tmps, assign, body, hy, hR⟩ := hY2
          simp only [Pc.encs] at hy
          gi_wp2
          refine hR.mono ?_
          rintro e W3 (⟨rfl, hJ3, hk3⟩ | ⟨rfl, hJx3⟩)
          · have hit3 : W3.heap[W.heap.size]? = some (.stringIter s (p + 1)) := by rw [← hd1']; exact hk3.walks.same _ _ hit2 rfl
            have HI : Hid (PInv s B W.heap.size J (p + 1) (p + 1) (pre ++ [⟨(b, s.extract b p), hxb⟩]) W3) := ⟨hJ3, hk3.same.trans HH2.out.2, HS'.out, H.out.ne⟩
            clear hy hR hJ3 hk3 hnx cB hit2
            gi_wp2
            go_roundw
            case rel => exact ⟨p + 1, p + 1, _, Nat.le_refl _, by omega, by simp, hit3, HI⟩
            case measure => rw [Hpos.out, iterPos_of hit3]; omega
          · clear hy hR hnx cB hit2
            gi_wp2
            refine bodyPost_ret (results_none rfl _ _ _) rfl ?_
            exact ⟨⟨_, rfl⟩, .inr ⟨_, ⟨_, HS'.out.symm⟩, hJx3⟩⟩
        · have i47 : ¬ (r : Int) = 47 := by omega
          have HI : Hid (PInv s B W.heap.size J b (p + d) pre W2) := H.out.pass hb hlt (by rw [← Hr.out]; exact h47) Hd.out hd2 HH2.out
          gi_wp2
          go_roundw
          case rel => exact ⟨b, p + d, pre, by omega, hd2, rfl, hit2, HI⟩
          case measure => rw [Hpos.out, iterPos_of hit2]; omega
      · obtain rfl : p = s.size := by omega
        have hnx := run_next_over (P := Tryz.prog) wr W.heap.size s s.size hit hlt
        have cB := H.out.box.cell
        have hxb : b + (s.extract b s.size).size ≤ s.size := by simp; omega
        have HS := H.out.last ⟨(b, s.extract b s.size), hxb⟩ rfl
        have hlen : ∃ rest, (pre ++ [(⟨(b, s.extract b s.size), hxb⟩ : Pc s)]).map Pc.at ++ rest = pcs (bs s) := ⟨[], by rw [HS]; simp⟩
        have hY2 := HY.out pre ⟨(b, s.extract b s.size), hxb⟩ wr H.out.j hlen
        have HS' : Hid ((pre ++ [(⟨(b, s.extract b s.size), hxb⟩ : Pc s)]).map Pc.at = pcs (bs s)) := HS
        clear HS hlen
        obtain ⟨fn, tmps, assign, body, hy, hR⟩ := hY2
        simp only [Pc.encs] at hy
        gi_wp2
        refine hR.mono ?_
        rintro e W3 (⟨rfl, hJ3, hk3⟩ | ⟨rfl, hJx3⟩)
        · clear hy hR hnx cB
          gi_wp2
          go_end0
          exact ⟨⟨_, rfl⟩, .inl ⟨_, HS'.out, hJ3⟩⟩
        · clear hy hR hnx cB
          gi_wp2
          go_end0
          exact ⟨⟨_, rfl⟩, .inr ⟨_, ⟨[], by rw [HS'.out]; simp⟩, hJx3⟩⟩
end Go.Proofs.YtggnglgehobglaaGreatDoor

/- The walk of Path, with how much was drawn (gend.py, out of NPath). -/
namespace Go.Proofs.YtggnglgehobglaaGreatDoor
open Go.RowKit Go.Shelf

attribute [local go_sem] Oper.semAt_some

theorem lod_keep {w X Y : World} {row : Option Nat} {n0 b0 : Nat} (h : LoD n0 w X) (hn : n0 ≤ w.heap.size) (hb : n0 ≤ b0) (hg : X.grownBy Y row) (hd : Y.drawn = X.drawn) (hr : ∀ r, row = some r → b0 ≤ r ∧ ∃ o : Obj, X.heap[r]? = some o ∧ o.isCells = false) : LoD n0 w Y :=
  ⟨below_keep h.toBelow hn hb hg hr, by rw [hd]; exact h.d⟩
structure PathID {s : ByteArray} (w : World) (pre : List (Pc s)) (W : World) : Prop where
  r : Box2 W w.heap.size (.int .i64 0) (.int .i64 0)
  l : Box2 W (w.heap.size + 1) (.int .i64 0) (.int .i64 0)
  n : Boxed W (w.heap.size + 2) 3 (.int .i64 (pre.length : Int))
  p : Boxed W (w.heap.size + 3) 9 (.string s)
  b : LoD w.heap.size w W
  ok : OkAll pre
structure PathXsD {s : ByteArray} (w : World) (c : Code) (q : List (Pc s)) (x : Pc s) (W : World) : Prop where
  r : Box2 W w.heap.size (.int .i64 0) (.int .i64 0)
  l : Box2 W (w.heap.size + 1) (.int .i64 ((lackP q x).1 : Int)) (.int .i64 ((lackP q x).2 : Int))
  b : LoD w.heap.size w W
  ok : OkAll q
  no : q.length = 16 ∨ okName (bs x.1.2) = false
  c : c = .exit 0
def PathXD {s : ByteArray} (w : World) (c : Code) (pre : List (Pc s)) (W : World) : Prop := ∃ q x, pre = q ++ [x] ∧ PathXsD w c q x W
theorem pathID_own {s : ByteArray} (w : World) (b0 : Nat) (h0 : w.heap.size ≤ b0) : OwnD b0 (PathID (s := s) w) := fun _ _ _ _ hs hg hdr hr =>
  ⟨box2_keep hs.r hg hr, box2_keep hs.l hg hr, boxed_keep hs.n hg hr, boxed_keep hs.p hg hr, lod_keep hs.b (Nat.le_refl _) h0 hg hdr hr, hs.ok⟩
theorem pathXD_own {s : ByteArray} (w : World) (b0 : Nat) (h0 : w.heap.size ≤ b0) (c : Code) : OwnD b0 (PathXD (s := s) w c) := fun _ _ _ _ hs hg hdr hr => by
  obtain ⟨q, x, e, hs⟩ := hs
  exact ⟨q, x, e, box2_keep hs.r hg hr, box2_keep hs.l hg hr, lod_keep hs.b (Nat.le_refl _) h0 hg hdr hr, hs.ok, hs.no, hs.c⟩

theorem PathID.kept {s : ByteArray} {w W W' : World} {pre : List (Pc s)} (h : PathID w pre W) (hB : LoD W.heap.size W W') : PathID w pre W' :=
  ⟨h.r.kept hB.toBelow, h.l.kept hB.toBelow, (hB.toBelow.block _ h.n.lt).trans h.n, (hB.toBelow.block _ h.p.lt).trans h.p, h.b.trans (hB.mono h.b.size), h.ok⟩
theorem PathID.alloc {s : ByteArray} {w W : World} {pre : List (Pc s)} (h : PathID w pre W) (o : Obj) : PathID w pre (W.alloc o) := h.kept ((LoD.refl _ _).alloc (Nat.le_refl _) _)
theorem PathID.cells {s : ByteArray} {w W : World} {pre : List (Pc s)} (h : PathID w pre W) : PathC w (pre.length : Int) W := ⟨h.n.cell, h.n.frozen, h.l.cell.1, h.l.cell.2, h.l.frozen.1, h.l.frozen.2⟩
theorem PathID.on {s : ByteArray} {w W W1 : World} {pre : List (Pc s)} {L : Nat} (h : PathID w pre W) (hB : LoD W.heap.size W W1) (o : Obj) (x : Pc s) (hL : L = pre.length) (h16 : L ≤ 16) (hn : ¬ L = 16) (hx : okName (bs x.1.2) = true) :
    KeepsOthers W ((W1.alloc o).setCell ⟨w.heap.size + 1 + 1, 0, none⟩ (.int .i64 ((L : Int) + 1))) ∧ ((W1.alloc o).setCell ⟨w.heap.size + 1 + 1, 0, none⟩ (.int .i64 ((L : Int) + 1))).heap[w.heap.size + 3]? = W.heap[w.heap.size + 3]? ∧ PathID w (pre ++ [x]) ((W1.alloc o).setCell ⟨w.heap.size + 1 + 1, 0, none⟩ (.int .i64 ((L : Int) + 1))) := by
  have hI := (h.kept hB).alloc o
  have hK := KeepsOthers.then_set hB.toBelow o ⟨w.heap.size + 1 + 1, 0, none⟩ (.int .i64 ((L : Int) + 1))
  have hp : Boxed ((W1.alloc o).setCell ⟨w.heap.size + 1 + 1, 0, none⟩ (.int .i64 ((L : Int) + 1))) (w.heap.size + 3) 9 (.string s) := hI.p.other (by omega) _
  refine ⟨hK, hp.trans h.p.symm, hI.r.other (by omega) _, hI.l.other (by omega) _, ?_, hp, hI.b.setCell (p := ⟨w.heap.size + 1 + 1, 0, none⟩) (by show w.heap.size ≤ w.heap.size + 1 + 1; omega) _, ?_, ?_⟩
  · have := hI.n.set (.int .i64 ((L : Int) + 1))
    rw [List.length_append, List.length_singleton, ← hL]
    exact this
  · rw [List.length_append, List.length_singleton]; omega
  · intro y hy
    rcases List.mem_append.1 hy with hy | hy
    · exact h.ok.2 y hy
    · rw [List.mem_singleton.1 hy]; exact hx
theorem PathID.off {s : ByteArray} {w W W1 : World} {pre : List (Pc s)} (h : PathID w pre W) (hB : LoD W.heap.size W W1) (o : Obj) (x : Pc s) (u0 u1 : Int) (h0 : u0 = (lackP pre x).1) (h1 : u1 = (lackP pre x).2) (hx : pre.length = 16 ∨ okName (bs x.1.2) = false) :
    KeepsOthers W (((W1.alloc o).setCell ⟨w.heap.size + 1, 0, none⟩ (.int .i64 u0)).setCell ⟨w.heap.size + 1, 1, none⟩ (.int .i64 u1)) ∧ PathXD w (.exit 0) (pre ++ [x]) (((W1.alloc o).setCell ⟨w.heap.size + 1, 0, none⟩ (.int .i64 u0)).setCell ⟨w.heap.size + 1, 1, none⟩ (.int .i64 u1)) := by
  have hI := (h.kept hB).alloc o
  have hK := (KeepsOthers.then_set hB.toBelow o ⟨w.heap.size + 1, 0, none⟩ (.int .i64 u0)).trans (KeepsOthers.setCell _ ⟨w.heap.size + 1, 1, none⟩ (.int .i64 u1))
  refine ⟨hK, pre, x, rfl, (hI.r.other (by omega) _).other (by omega) _, ?_, (hI.b.setCell (p := ⟨w.heap.size + 1, 0, none⟩) (by show w.heap.size ≤ w.heap.size + 1; omega) _).setCell (p := ⟨w.heap.size + 1, 1, none⟩) (by show w.heap.size ≤ w.heap.size + 1; omega) _, h.ok, hx, rfl⟩
  rw [← h0, ← h1]
  exact hI.l.all _ _
set_option maxRecDepth 100000 in
set_option maxHeartbeats 4000000 in
theorem dpath_any (s : ByteArray) (w : World) (hs : s.size ≤ maxLen) :
    Calls Tryz.prog 50 #[.string s] w fun e w' => e = .returned (spotV (pathSpot (bs s))) ∧ LoD w.heap.size w w' := by
  have hs' : s.size ≤ 9223372036854775807 := by unfold maxLen at hs; omega
  by_cases h2 : 200 < s.size
  · have i2 : (200 : Int) < s.size := by omega
    go_enter Tryz.func50, Tryz.ntmps50
    go_wp2
    go_step3
    go_wp2
    rw [Exit.noGoto_ret]
    exact spot_ret (k := 2) rfl (Box2.new _ _ _) rfl rfl ⟨by unfold pathSpot; rw [if_pos (show 200 < (bs s).length by rw [bs_len]; exact h2)]; rfl, (LoD.refl _ w).alloc (Nat.le_refl _) _⟩
  · have i2 : ¬ (200 : Int) < s.size := by omega
    refine (callsIn_wide (n := 5)).1 ?_
    refine callsIn_of_wp_marks Tryz.func50 rfl trivial ?_ rfl
    simp only [Tryz.ntmps50, List.size_toArray, List.length_cons, List.length_nil, Nat.reduceAdd, Nat.reduceSub, Array.replicate_succ, Array.replicate_zero, List.push_toArray, List.append_toArray, List.nil_append, List.cons_append]
    refine wpIn_wide.2 ?_
    go_wp2_with fail
    go_step3
    go_wp2_with fail
    go_step3
    go_wp2_with fail
    refine (npieces_any s _).mono ?_
    rintro e w' ⟨rfl, rfl⟩
    go_wp2_with fail
    obtain ⟨w4, hw4⟩ : ∃ w4, w4 = (((w.alloc (.cells #[.int .i64 0, .int .i64 0] 48)).alloc (.cells #[.int .i64 0, .int .i64 0] 48)).alloc (.cells #[.int .i64 0] 3)).alloc (.cells #[.string s] 9) := ⟨_, rfl⟩
    have hs4 : w4.heap.size = w.heap.size + 4 := by rw [hw4]; simp
    have hB4 : LoD w.heap.size w w4 := by
      rw [hw4]; exact ((((LoD.refl _ w).alloc (Nat.le_refl _) _).alloc (by simp) _).alloc (by simp; omega) _).alloc (by simp; omega) _
    have bR : Box2 w4 w.heap.size (.int .i64 0) (.int .i64 0) := by
      rw [hw4]
      exact (Box2.new w _ _).kept ((((Below.refl _ _).alloc (Nat.le_refl _) _).alloc (by simp) _).alloc (by simp) _)
    have bL : Box2 w4 (w.heap.size + 1) (.int .i64 0) (.int .i64 0) := by
      have := Box2.new (w.alloc (.cells #[.int .i64 0, .int .i64 0] 48)) (.int .i64 0) (.int .i64 0)
      rw [World.size_alloc] at this
      rw [hw4]
      exact this.kept (((Below.refl _ _).alloc (Nat.le_refl _) _).alloc (by simp) _)
    have bN : Boxed w4 (w.heap.size + 2) 3 (.int .i64 0) := by
      have := (Boxed.new ((w.alloc (.cells #[.int .i64 0, .int .i64 0] 48)).alloc (.cells #[.int .i64 0, .int .i64 0] 48)) 3 (.int .i64 0)).alloc (.cells #[.string s] 9)
      rw [World.size_alloc, World.size_alloc] at this
      rw [hw4]; exact this
    have bP : Boxed w4 (w.heap.size + 3) 9 (.string s) := by
      have := Boxed.new (((w.alloc (.cells #[.int .i64 0, .int .i64 0] 48)).alloc (.cells #[.int .i64 0, .int .i64 0] 48)).alloc (.cells #[.int .i64 0] 3)) 9 (.string s)
      rw [World.size_alloc, World.size_alloc, World.size_alloc] at this
      rw [hw4]; exact this
    rw [← hw4]
    clear hw4
    refine (wpIn_wide (n := 5)).1 ?_
    refine range_d (w := w4) (B := w.heap.size + 3) rfl (by omega) (gf := 94) (lb := #[.pointer (some ⟨w.heap.size + 3, 0, none⟩)]) rfl trivial (enters_of Tryz.func94 (by kernel_rfl) rfl)
      (pieces_tellsD s hs w4 (w.heap.size + 3) bP 4 (by omega)) (fun _ => rfl) (by omega)
      (PathID w) (PathXD w) (pathID_own w _ (by omega)) (pathXD_own w _ (by omega))
      ⟨bR, bL, bN, bP, hB4, by simp, by simp⟩ ?act ?assign ?body ?done ?stop
    case assign =>
      intro l x W K hK
      gi_wp2
      exact hK
    case body =>
      rintro l pre x W hl0 hI hlen
      have H : Hid (PathID w pre W) := hI
      have hx := x.2
      have hpl := hI.ok.1
      have hd : 1 ≤ 5 - 1 - 1 := by omega
      have hsl := spot_le (bs x.1.2)
      rw [bs_len] at hsl
      have hck := dcheck_any x.1.2 W (by omega)
      obtain ⟨e1, he1⟩ : ∃ e1, e1 = (spot (bs x.1.2)).1 := ⟨_, rfl⟩
      obtain ⟨e2, he2⟩ : ∃ e2, e2 = (spot (bs x.1.2)).2 := ⟨_, rfl⟩
      simp only [spotV] at hck
      rw [← he1, ← he2] at hck
      rw [← he2] at hsl
      have HE1 : Hid (e1 = (spot (bs x.1.2)).1) := he1
      have HE2 : Hid (e2 = (spot (bs x.1.2)).2) := he2
      clear he1 he2 hI bR bL bN bP hB4
      obtain ⟨L, hL⟩ : ∃ L, L = pre.length := ⟨_, rfl⟩
      have HL : Hid (L = pre.length) := hL
      rw [← hL] at hpl
      have HQ : Hid (∀ W1 o, LoD W.heap.size W W1 → PathC w (L : Int) (W1.alloc o)) := fun W1 o hB => by rw [hL]; exact ((H.out.kept hB).alloc o).cells
      clear hL
      by_cases h16 : L = 16
      · subst h16
        gi_wp2_with (refine ⟨trivial, ?_⟩; gi_at_call 73; refine (CallsIn.inRound l (callsIn_wide.2 hck)).mono ?_; rintro e W1 ⟨rfl, hB1⟩; obtain ⟨cN, fN, l0, l1, f0, f1⟩ := HQ.out W1 (.cells #[.int .i64 (e1 : Int), .int .i64 (e2 : Int)] 48) hB1; obtain ⟨q0, q1⟩ := box2_at W1 (.int .i64 (e1 : Int)) (.int .i64 (e2 : Int)))
        refine H.out.off hB1 _ x _ _ ?_ ?_ (.inl HL.out.symm)
        · unfold lackP; rw [if_pos HL.out.symm]; rfl
        · unfold lackP; rw [if_pos HL.out.symm]
      · have i16 : ¬ (L : Int) = 16 := by omega
        by_cases h0 : e1 = 0
        · subst h0
          gi_wp2_with (refine ⟨trivial, ?_⟩; gi_at_call 73; refine (CallsIn.inRound l (callsIn_wide.2 hck)).mono ?_; rintro e W1 ⟨rfl, hB1⟩; obtain ⟨cN, fN, l0, l1, f0, f1⟩ := HQ.out W1 (.cells #[.int .i64 0, .int .i64 (e2 : Int)] 48) hB1; obtain ⟨q0, q1⟩ := box2_at W1 (.int .i64 0) (.int .i64 (e2 : Int)))
          exact H.out.on hB1 _ x HL.out hpl h16 (by unfold okName; rw [← HE1.out]; rfl)
        · have j0 : ¬ (e1 : Int) = 0 := by omega
          gi_wp2_with (refine ⟨trivial, ?_⟩; gi_at_call 73; refine (CallsIn.inRound l (callsIn_wide.2 hck)).mono ?_; rintro e W1 ⟨rfl, hB1⟩; obtain ⟨cN, fN, l0, l1, f0, f1⟩ := HQ.out W1 (.cells #[.int .i64 (e1 : Int), .int .i64 (e2 : Int)] 48) hB1; obtain ⟨q0, q1⟩ := box2_at W1 (.int .i64 (e1 : Int)) (.int .i64 (e2 : Int)))
          refine H.out.off hB1 _ x _ _ ?_ ?_ (.inr (by unfold okName; rw [← HE1.out]; simpa using h0))
          · unfold lackP; rw [if_neg (fun e => h16 (HL.out.trans e)), HE1.out]
          · unfold lackP; rw [if_neg (fun e => h16 (HL.out.trans e)), HE2.out]; simp
    case done =>
      rintro D xs W hD hS hI hK
      obtain ⟨l0, l1⟩ := hI.l.cell
      obtain ⟨r0, r1⟩ := hI.r.cell
      obtain ⟨f0, f1⟩ := hI.r.frozen
      have H : Hid (PathID w xs W ∧ xs.map Pc.at = pcs (bs s) ∧ W.heap[D]? = some (.deferred (some [])) ∧ w4.heap.size ≤ D) := ⟨hI, hS, hK, hD⟩
      clear hI hS hK hD bR bL bN bP hB4
      gi_wp2
      go_wp2_with fail
      rw [Exit.noGoto_ret]
      obtain ⟨hI, hS, hK, hD⟩ := H.out
      have hK' : (((W.setCell ⟨w.heap.size, 0, none⟩ (.int .i64 0)).setCell ⟨w.heap.size, 1, none⟩ (.int .i64 0))).heap[D]? = some (.deferred (some [])) := by
        rw [Below.heap_setCell _ _ _ _ (by show D ≠ w.heap.size; omega), Below.heap_setCell _ _ _ _ (by show D ≠ w.heap.size; omega)]; exact hK
      refine spot_ret_d (k := 2) rfl (hI.r.all _ _) rfl hK' ⟨by rw [hI.ok.done hS (by omega)]; rfl, ?_⟩
      exact (((hI.b.setCell (p := ⟨w.heap.size, 0, none⟩) (Nat.le_refl _) _).setCell (p := ⟨w.heap.size, 1, none⟩) (Nat.le_refl _) _)).trans ⟨belowK_b (w := w) (Nat.le_refl _) _ D _ _ (by omega) hK' rfl rfl, Nat.le_refl _⟩
    case stop =>
      rintro D c pre W hD ⟨rest, hS⟩ ⟨q, x, rfl, hX⟩ hK
      obtain rfl := hX.c
      obtain ⟨l0, l1⟩ := hX.l.cell
      obtain ⟨r0, r1⟩ := hX.r.cell
      obtain ⟨f0, f1⟩ := hX.r.frozen
      obtain ⟨u0, h0⟩ : ∃ u0, u0 = ((lackP q x).1 : Int) := ⟨_, rfl⟩
      obtain ⟨u1, h1⟩ : ∃ u1, u1 = ((lackP q x).2 : Int) := ⟨_, rfl⟩
      rw [← h0] at l0
      rw [← h1] at l1
      have HS : Hid (spotV (pathSpot (bs s)) = .agg #[.int .i64 u0, .int .i64 u1]) := by
        show _ = _
        rw [hX.ok.stop hX.no hS (by omega), h0, h1]; rfl
      have H : Hid (PathXsD w (.exit 0) q x W ∧ W.heap[D]? = some (.deferred (some [])) ∧ w4.heap.size ≤ D) := ⟨hX, hK, hD⟩
      clear hX hS hK hD bR bL bN bP hB4 h0 h1
      gi_wp2
      go_wp2_with fail
      rw [Exit.noGoto_ret]
      obtain ⟨hX, hK, hD⟩ := H.out
      have hK' : (((W.setCell ⟨w.heap.size, 0, none⟩ (.int .i64 u0)).setCell ⟨w.heap.size, 1, none⟩ (.int .i64 u1))).heap[D]? = some (.deferred (some [])) := by
        rw [Below.heap_setCell _ _ _ _ (by show D ≠ w.heap.size; omega), Below.heap_setCell _ _ _ _ (by show D ≠ w.heap.size; omega)]; exact hK
      refine spot_ret_d (k := 2) rfl (hX.r.all _ _) rfl hK' ⟨by rw [HS.out], ?_⟩
      exact (((hX.b.setCell (p := ⟨w.heap.size, 0, none⟩) (Nat.le_refl _) _).setCell (p := ⟨w.heap.size, 1, none⟩) (Nat.le_refl _) _)).trans ⟨belowK_b (w := w) (Nat.le_refl _) _ D _ _ (by omega) hK' rfl rfl, Nat.le_refl _⟩
end Go.Proofs.YtggnglgehobglaaGreatDoor
