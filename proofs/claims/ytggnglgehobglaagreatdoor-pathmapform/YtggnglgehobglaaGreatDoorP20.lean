import Derived.Test.YtggnglgehobglaaGreatDoorP18
import Derived.Test.YtggnglgehobglaaGreatDoorP19
import Derived.Test.YtggnglgehobglaaGreatDoorP05
import Derived.Test.YtggnglgehobglaaGreatDoorP02
/- The walk of Path, with how much was drawn (gend.py, out of NPath). -/
namespace Go.Proofs.YtggnglgehobglaaGreatDoor
open Go.RowKit Go.Shelf

attribute [local go_sem] Oper.semAt_some

theorem lod_keep {w X Y : World} {row : Option Nat} {n0 b0 : Nat} (h : LoD n0 w X) (hn : n0 ≤ w.heap.size) (hb : n0 ≤ b0) (hg : X.grownBy Y row) (hd : Y.drawn = X.drawn) (hr : ∀ r, row = some r → b0 ≤ r ∧ ∃ o : Obj, X.heap[r]? = some o ∧ o.isCells = false) : LoD n0 w Y :=
  ⟨below_keep h.toBelow hn hb hg hr, by rw [hd]; exact h.d⟩
structure PathID {s : ByteArray} (w : World) (pre : List (Pc s)) (W : World) : Prop where
  r : Box2 W w.heap.size (.int .i64 0) (.int .i64 0)
  l : Box2 W (w.heap.size + 1) (.int .i64 0) (.int .i64 0)
  n : Boxed W (w.heap.size + 2) 3 (.int .i64 (pre.length : Int))
  p : Boxed W (w.heap.size + 3) 9 (.string s)
  b : LoD w.heap.size w W
  ok : OkAll pre
structure PathXsD {s : ByteArray} (w : World) (c : Code) (q : List (Pc s)) (x : Pc s) (W : World) : Prop where
  r : Box2 W w.heap.size (.int .i64 0) (.int .i64 0)
  l : Box2 W (w.heap.size + 1) (.int .i64 ((lackP q x).1 : Int)) (.int .i64 ((lackP q x).2 : Int))
  b : LoD w.heap.size w W
  ok : OkAll q
  no : q.length = 16 ∨ okName (bs x.1.2) = false
  c : c = .exit 0
def PathXD {s : ByteArray} (w : World) (c : Code) (pre : List (Pc s)) (W : World) : Prop := ∃ q x, pre = q ++ [x] ∧ PathXsD w c q x W
theorem pathID_own {s : ByteArray} (w : World) (b0 : Nat) (h0 : w.heap.size ≤ b0) : OwnD b0 (PathID (s := s) w) := fun _ _ _ _ hs hg hdr hr =>
  ⟨box2_keep hs.r hg hr, box2_keep hs.l hg hr, boxed_keep hs.n hg hr, boxed_keep hs.p hg hr, lod_keep hs.b (Nat.le_refl _) h0 hg hdr hr, hs.ok⟩
theorem pathXD_own {s : ByteArray} (w : World) (b0 : Nat) (h0 : w.heap.size ≤ b0) (c : Code) : OwnD b0 (PathXD (s := s) w c) := fun _ _ _ _ hs hg hdr hr => by
  obtain ⟨q, x, e, hs⟩ := hs
  exact ⟨q, x, e, box2_keep hs.r hg hr, box2_keep hs.l hg hr, lod_keep hs.b (Nat.le_refl _) h0 hg hdr hr, hs.ok, hs.no, hs.c⟩

theorem PathID.kept {s : ByteArray} {w W W' : World} {pre : List (Pc s)} (h : PathID w pre W) (hB : LoD W.heap.size W W') : PathID w pre W' :=
  ⟨h.r.kept hB.toBelow, h.l.kept hB.toBelow, (hB.toBelow.block _ h.n.lt).trans h.n, (hB.toBelow.block _ h.p.lt).trans h.p, h.b.trans (hB.mono h.b.size), h.ok⟩
theorem PathID.alloc {s : ByteArray} {w W : World} {pre : List (Pc s)} (h : PathID w pre W) (o : Obj) : PathID w pre (W.alloc o) := h.kept ((LoD.refl _ _).alloc (Nat.le_refl _) _)
theorem PathID.cells {s : ByteArray} {w W : World} {pre : List (Pc s)} (h : PathID w pre W) : PathC w (pre.length : Int) W := ⟨h.n.cell, h.n.frozen, h.l.cell.1, h.l.cell.2, h.l.frozen.1, h.l.frozen.2⟩
theorem PathID.on {s : ByteArray} {w W W1 : World} {pre : List (Pc s)} {L : Nat} (h : PathID w pre W) (hB : LoD W.heap.size W W1) (o : Obj) (x : Pc s) (hL : L = pre.length) (h16 : L ≤ 16) (hn : ¬ L = 16) (hx : okName (bs x.1.2) = true) :
    KeepsOthers W ((W1.alloc o).setCell ⟨w.heap.size + 1 + 1, 0, none⟩ (.int .i64 ((L : Int) + 1))) ∧ ((W1.alloc o).setCell ⟨w.heap.size + 1 + 1, 0, none⟩ (.int .i64 ((L : Int) + 1))).heap[w.heap.size + 3]? = W.heap[w.heap.size + 3]? ∧ PathID w (pre ++ [x]) ((W1.alloc o).setCell ⟨w.heap.size + 1 + 1, 0, none⟩ (.int .i64 ((L : Int) + 1))) := by
  have hI := (h.kept hB).alloc o
  have hK := KeepsOthers.then_set hB.toBelow o ⟨w.heap.size + 1 + 1, 0, none⟩ (.int .i64 ((L : Int) + 1))
  have hp : Boxed ((W1.alloc o).setCell ⟨w.heap.size + 1 + 1, 0, none⟩ (.int .i64 ((L : Int) + 1))) (w.heap.size + 3) 9 (.string s) := hI.p.other (by omega) _
  refine ⟨hK, hp.trans h.p.symm, hI.r.other (by omega) _, hI.l.other (by omega) _, ?_, hp, hI.b.setCell (p := ⟨w.heap.size + 1 + 1, 0, none⟩) (by show w.heap.size ≤ w.heap.size + 1 + 1; omega) _, ?_, ?_⟩
  · have := hI.n.set (.int .i64 ((L : Int) + 1))
    rw [List.length_append, List.length_singleton, ← hL]
    exact this
  · rw [List.length_append, List.length_singleton]; omega
  · intro y hy
    rcases List.mem_append.1 hy with hy | hy
    · exact h.ok.2 y hy
    · rw [List.mem_singleton.1 hy]; exact hx
theorem PathID.off {s : ByteArray} {w W W1 : World} {pre : List (Pc s)} (h : PathID w pre W) (hB : LoD W.heap.size W W1) (o : Obj) (x : Pc s) (u0 u1 : Int) (h0 : u0 = (lackP pre x).1) (h1 : u1 = (lackP pre x).2) (hx : pre.length = 16 ∨ okName (bs x.1.2) = false) :
    KeepsOthers W (((W1.alloc o).setCell ⟨w.heap.size + 1, 0, none⟩ (.int .i64 u0)).setCell ⟨w.heap.size + 1, 1, none⟩ (.int .i64 u1)) ∧ PathXD w (.exit 0) (pre ++ [x]) (((W1.alloc o).setCell ⟨w.heap.size + 1, 0, none⟩ (.int .i64 u0)).setCell ⟨w.heap.size + 1, 1, none⟩ (.int .i64 u1)) := by
  have hI := (h.kept hB).alloc o
  have hK := (KeepsOthers.then_set hB.toBelow o ⟨w.heap.size + 1, 0, none⟩ (.int .i64 u0)).trans (KeepsOthers.setCell _ ⟨w.heap.size + 1, 1, none⟩ (.int .i64 u1))
  refine ⟨hK, pre, x, rfl, (hI.r.other (by omega) _).other (by omega) _, ?_, (hI.b.setCell (p := ⟨w.heap.size + 1, 0, none⟩) (by show w.heap.size ≤ w.heap.size + 1; omega) _).setCell (p := ⟨w.heap.size + 1, 1, none⟩) (by show w.heap.size ≤ w.heap.size + 1; omega) _, h.ok, hx, rfl⟩
  rw [← h0, ← h1]
  exact hI.l.all _ _
set_option maxRecDepth 100000 in
set_option maxHeartbeats 4000000 in
theorem dpath_any (s : ByteArray) (w : World) (hs : s.size ≤ maxLen) :
    Calls Tryz.prog 50 #[.string s] w fun e w' => e = .returned (spotV (pathSpot (bs s))) ∧ LoD w.heap.size w w' := by
  have hs' : s.size ≤ 9223372036854775807 := by unfold maxLen at hs; omega
  by_cases h2 : 200 < s.size
  · have i2 : (200 : Int) < s.size := by omega
    go_enter Tryz.func50, Tryz.ntmps50
    go_wp2
    go_step3
    go_wp2
    rw [Exit.noGoto_ret]
    exact spot_ret (k := 2) rfl (Box2.new _ _ _) rfl rfl ⟨by unfold pathSpot; rw [if_pos (show 200 < (bs s).length by rw [bs_len]; exact h2)]; rfl, (LoD.refl _ w).alloc (Nat.le_refl _) _⟩
  · have i2 : ¬ (200 : Int) < s.size := by omega
    refine (callsIn_wide (n := 5)).1 ?_
    refine callsIn_of_wp_marks Tryz.func50 rfl trivial ?_ rfl
    simp only [Tryz.ntmps50, List.size_toArray, List.length_cons, List.length_nil, Nat.reduceAdd, Nat.reduceSub, Array.replicate_succ, Array.replicate_zero, List.push_toArray, List.append_toArray, List.nil_append, List.cons_append]
    refine wpIn_wide.2 ?_
    go_wp2_with fail
    go_step3
    go_wp2_with fail
    go_step3
    go_wp2_with fail
    refine (npieces_any s _).mono ?_
    rintro e w' ⟨rfl, rfl⟩
    go_wp2_with fail
    obtain ⟨w4, hw4⟩ : ∃ w4, w4 = (((w.alloc (.cells #[.int .i64 0, .int .i64 0] 48)).alloc (.cells #[.int .i64 0, .int .i64 0] 48)).alloc (.cells #[.int .i64 0] 3)).alloc (.cells #[.string s] 9) := ⟨_, rfl⟩
    have hs4 : w4.heap.size = w.heap.size + 4 := by rw [hw4]; simp
    have hB4 : LoD w.heap.size w w4 := by
      rw [hw4]; exact ((((LoD.refl _ w).alloc (Nat.le_refl _) _).alloc (by simp) _).alloc (by simp; omega) _).alloc (by simp; omega) _
    have bR : Box2 w4 w.heap.size (.int .i64 0) (.int .i64 0) := by
      rw [hw4]
      exact (Box2.new w _ _).kept ((((Below.refl _ _).alloc (Nat.le_refl _) _).alloc (by simp) _).alloc (by simp) _)
    have bL : Box2 w4 (w.heap.size + 1) (.int .i64 0) (.int .i64 0) := by
      have := Box2.new (w.alloc (.cells #[.int .i64 0, .int .i64 0] 48)) (.int .i64 0) (.int .i64 0)
      rw [World.size_alloc] at this
      rw [hw4]
      exact this.kept (((Below.refl _ _).alloc (Nat.le_refl _) _).alloc (by simp) _)
    have bN : Boxed w4 (w.heap.size + 2) 3 (.int .i64 0) := by
      have := (Boxed.new ((w.alloc (.cells #[.int .i64 0, .int .i64 0] 48)).alloc (.cells #[.int .i64 0, .int .i64 0] 48)) 3 (.int .i64 0)).alloc (.cells #[.string s] 9)
      rw [World.size_alloc, World.size_alloc] at this
      rw [hw4]; exact this
    have bP : Boxed w4 (w.heap.size + 3) 9 (.string s) := by
      have := Boxed.new (((w.alloc (.cells #[.int .i64 0, .int .i64 0] 48)).alloc (.cells #[.int .i64 0, .int .i64 0] 48)).alloc (.cells #[.int .i64 0] 3)) 9 (.string s)
      rw [World.size_alloc, World.size_alloc, World.size_alloc] at this
      rw [hw4]; exact this
    rw [← hw4]
    clear hw4
    refine (wpIn_wide (n := 5)).1 ?_
    refine range_d (w := w4) (B := w.heap.size + 3) rfl (by omega) (gf := 94) (lb := #[.pointer (some ⟨w.heap.size + 3, 0, none⟩)]) rfl trivial (enters_of Tryz.func94 (by kernel_rfl) rfl)
      (pieces_tellsD s hs w4 (w.heap.size + 3) bP 4 (by omega)) (fun _ => rfl) (by omega)
      (PathID w) (PathXD w) (pathID_own w _ (by omega)) (pathXD_own w _ (by omega))
      ⟨bR, bL, bN, bP, hB4, by simp, by simp⟩ ?act ?assign ?body ?done ?stop
    case assign =>
      intro l x W K hK
      gi_wp2
      exact hK
    case body =>
      rintro l pre x W hl0 hI hlen
      have H : Hid (PathID w pre W) := hI
      have hx := x.2
      have hpl := hI.ok.1
      have hd : 1 ≤ 5 - 1 - 1 := by omega
      have hsl := spot_le (bs x.1.2)
      rw [bs_len] at hsl
      have hck := dcheck_any x.1.2 W (by omega)
      obtain ⟨e1, he1⟩ : ∃ e1, e1 = (spot (bs x.1.2)).1 := ⟨_, rfl⟩
      obtain ⟨e2, he2⟩ : ∃ e2, e2 = (spot (bs x.1.2)).2 := ⟨_, rfl⟩
      simp only [spotV] at hck
      rw [← he1, ← he2] at hck
      rw [← he2] at hsl
      have HE1 : Hid (e1 = (spot (bs x.1.2)).1) := he1
      have HE2 : Hid (e2 = (spot (bs x.1.2)).2) := he2
      clear he1 he2 hI bR bL bN bP hB4
      obtain ⟨L, hL⟩ : ∃ L, L = pre.length := ⟨_, rfl⟩
      have HL : Hid (L = pre.length) := hL
      rw [← hL] at hpl
      have HQ : Hid (∀ W1 o, LoD W.heap.size W W1 → PathC w (L : Int) (W1.alloc o)) := fun W1 o hB => by rw [hL]; exact ((H.out.kept hB).alloc o).cells
      clear hL
      by_cases h16 : L = 16
      · subst h16
        gi_wp2_with (refine ⟨trivial, ?_⟩; gi_at_call 73; refine (CallsIn.inRound l (callsIn_wide.2 hck)).mono ?_; rintro e W1 ⟨rfl, hB1⟩; obtain ⟨cN, fN, l0, l1, f0, f1⟩ := HQ.out W1 (.cells #[.int .i64 (e1 : Int), .int .i64 (e2 : Int)] 48) hB1; obtain ⟨q0, q1⟩ := box2_at W1 (.int .i64 (e1 : Int)) (.int .i64 (e2 : Int)))
        refine H.out.off hB1 _ x _ _ ?_ ?_ (.inl HL.out.symm)
        · unfold lackP; rw [if_pos HL.out.symm]; rfl
        · unfold lackP; rw [if_pos HL.out.symm]
      · have i16 : ¬ (L : Int) = 16 := by omega
        by_cases h0 : e1 = 0
        · subst h0
          gi_wp2_with (refine ⟨trivial, ?_⟩; gi_at_call 73; refine (CallsIn.inRound l (callsIn_wide.2 hck)).mono ?_; rintro e W1 ⟨rfl, hB1⟩; obtain ⟨cN, fN, l0, l1, f0, f1⟩ := HQ.out W1 (.cells #[.int .i64 0, .int .i64 (e2 : Int)] 48) hB1; obtain ⟨q0, q1⟩ := box2_at W1 (.int .i64 0) (.int .i64 (e2 : Int)))
          exact H.out.on hB1 _ x HL.out hpl h16 (by unfold okName; rw [← HE1.out]; rfl)
        · have j0 : ¬ (e1 : Int) = 0 := by omega
          gi_wp2_with (refine ⟨trivial, ?_⟩; gi_at_call 73; refine (CallsIn.inRound l (callsIn_wide.2 hck)).mono ?_; rintro e W1 ⟨rfl, hB1⟩; obtain ⟨cN, fN, l0, l1, f0, f1⟩ := HQ.out W1 (.cells #[.int .i64 (e1 : Int), .int .i64 (e2 : Int)] 48) hB1; obtain ⟨q0, q1⟩ := box2_at W1 (.int .i64 (e1 : Int)) (.int .i64 (e2 : Int)))
          refine H.out.off hB1 _ x _ _ ?_ ?_ (.inr (by unfold okName; rw [← HE1.out]; simpa using h0))
          · unfold lackP; rw [if_neg (fun e => h16 (HL.out.trans e)), HE1.out]
          · unfold lackP; rw [if_neg (fun e => h16 (HL.out.trans e)), HE2.out]; simp
    case done =>
      rintro D xs W hD hS hI hK
      obtain ⟨l0, l1⟩ := hI.l.cell
      obtain ⟨r0, r1⟩ := hI.r.cell
      obtain ⟨f0, f1⟩ := hI.r.frozen
      have H : Hid (PathID w xs W ∧ xs.map Pc.at = pcs (bs s) ∧ W.heap[D]? = some (.deferred (some [])) ∧ w4.heap.size ≤ D) := ⟨hI, hS, hK, hD⟩
      clear hI hS hK hD bR bL bN bP hB4
      gi_wp2
      go_wp2_with fail
      rw [Exit.noGoto_ret]
      obtain ⟨hI, hS, hK, hD⟩ := H.out
      have hK' : (((W.setCell ⟨w.heap.size, 0, none⟩ (.int .i64 0)).setCell ⟨w.heap.size, 1, none⟩ (.int .i64 0))).heap[D]? = some (.deferred (some [])) := by
        rw [Below.heap_setCell _ _ _ _ (by show D ≠ w.heap.size; omega), Below.heap_setCell _ _ _ _ (by show D ≠ w.heap.size; omega)]; exact hK
      refine spot_ret_d (k := 2) rfl (hI.r.all _ _) rfl hK' ⟨by rw [hI.ok.done hS (by omega)]; rfl, ?_⟩
      exact (((hI.b.setCell (p := ⟨w.heap.size, 0, none⟩) (Nat.le_refl _) _).setCell (p := ⟨w.heap.size, 1, none⟩) (Nat.le_refl _) _)).trans ⟨belowK_b (w := w) (Nat.le_refl _) _ D _ _ (by omega) hK' rfl rfl, Nat.le_refl _⟩
    case stop =>
      rintro D c pre W hD ⟨rest, hS⟩ ⟨q, x, rfl, hX⟩ hK
      obtain rfl := hX.c
      obtain ⟨l0, l1⟩ := hX.l.cell
      obtain ⟨r0, r1⟩ := hX.r.cell
      obtain ⟨f0, f1⟩ := hX.r.frozen
      obtain ⟨u0, h0⟩ : ∃ u0, u0 = ((lackP q x).1 : Int) := ⟨_, rfl⟩
      obtain ⟨u1, h1⟩ : ∃ u1, u1 = ((lackP q x).2 : Int) := ⟨_, rfl⟩
      rw [← h0] at l0
      rw [← h1] at l1
      have HS : Hid (spotV (pathSpot (bs s)) = .agg #[.int .i64 u0, .int .i64 u1]) := by
        show _ = _
        rw [hX.ok.stop hX.no hS (by omega), h0, h1]; rfl
      have H : Hid (PathXsD w (.exit 0) q x W ∧ W.heap[D]? = some (.deferred (some [])) ∧ w4.heap.size ≤ D) := ⟨hX, hK, hD⟩
      clear hX hS hK hD bR bL bN bP hB4 h0 h1
      gi_wp2
      go_wp2_with fail
      rw [Exit.noGoto_ret]
      obtain ⟨hX, hK, hD⟩ := H.out
      have hK' : (((W.setCell ⟨w.heap.size, 0, none⟩ (.int .i64 u0)).setCell ⟨w.heap.size, 1, none⟩ (.int .i64 u1))).heap[D]? = some (.deferred (some [])) := by
        rw [Below.heap_setCell _ _ _ _ (by show D ≠ w.heap.size; omega), Below.heap_setCell _ _ _ _ (by show D ≠ w.heap.size; omega)]; exact hK
      refine spot_ret_d (k := 2) rfl (hX.r.all _ _) rfl hK' ⟨by rw [HS.out], ?_⟩
      exact (((hX.b.setCell (p := ⟨w.heap.size, 0, none⟩) (Nat.le_refl _) _).setCell (p := ⟨w.heap.size, 1, none⟩) (Nat.le_refl _) _)).trans ⟨belowK_b (w := w) (Nat.le_refl _) _ D _ _ (by omega) hK' rfl rfl, Nat.le_refl _⟩
end Go.Proofs.YtggnglgehobglaaGreatDoor

/- What lies in what is an order; a path moved there and back: over bytes. -/
namespace Go.Proofs.YtggnglgehobglaaGreatDoor

theorem inP_self (a : List UInt8) (h : isP a = true) : inP a a = true ∧ inP a [] = true :=
  ⟨(inP_iff _ _).2 ⟨h, h, List.prefix_refl _⟩, (inP_iff _ _).2 ⟨h, isP_nil, by rw [parts_nil]; exact List.nil_prefix⟩⟩
theorem inP_trans (a b c : List UInt8) (h : inP a b = true) (k : inP b c = true) : inP a c = true := by
  rw [inP_iff] at h k ⊢
  exact ⟨h.1, k.2.1, k.2.2.trans h.2.2⟩
theorem inP_anti (a b : List UInt8) (h : inP a b = true) (k : inP b a = true) : a = b := by
  rw [inP_iff] at h k
  have : parts a = parts b := (List.IsPrefix.eq_of_length_le k.2.2 h.2.2.length_le)
  rw [← glue_parts a, this, glue_parts]
theorem prefix_or {α : Type} (X Y Z : List α) (h : X <+: Z) (k : Y <+: Z) : X <+: Y ∨ Y <+: X := by
  by_cases hl : X.length ≤ Y.length
  · exact .inl (List.prefix_of_prefix_length_le h k hl)
  · exact .inr (List.prefix_of_prefix_length_le k h (by omega))
theorem inP_chain (a b c : List UInt8) (h : inP a b = true) (k : inP a c = true) : inP b c = true ∨ inP c b = true := by
  rw [inP_iff] at h k ⊢
  rw [inP_iff]
  rcases prefix_or _ _ _ h.2.2 k.2.2 with e | e
  · exact .inr ⟨k.2.1, h.2.1, e⟩
  · exact .inl ⟨h.2.1, k.2.1, e⟩
theorem inP_common (a b c : List UInt8) (ha : isP a = true) (hb : isP b = true) :
    inP a (comP a b) = true ∧ inP b (comP a b) = true ∧ (inP a c = true → inP b c = true → inP (comP a b) c = true) := by
  obtain ⟨hi, hp⟩ := comP_parts a b ha hb
  refine ⟨(inP_iff _ _).2 ⟨ha, hi, by rw [hp]; exact lcp_left _ _⟩, (inP_iff _ _).2 ⟨hb, hi, by rw [hp]; exact lcp_right _ _⟩, fun h k => ?_⟩
  rw [inP_iff] at h k ⊢
  exact ⟨hi, h.2.1, by rw [hp]; exact lcp_least _ _ _ h.2.2 k.2.2⟩

theorem isP_err (p : List UInt8) (h : isP p = false) : (pathSpot p).1 ≠ 0 := fun e => by
  unfold isP at h
  rw [e] at h
  cases h
theorem firstP_zero (l : List (List UInt8)) (h : firstP l = 0) : ∀ p ∈ l, isP p = true := by
  induction l with
  | nil => intro p hp; cases hp
  | cons q r ih =>
    intro p hp
    unfold firstP at h
    cases hq : isP q with
    | false => rw [hq] at h; exact absurd h (isP_err q hq)
    | true =>
      rw [hq] at h
      rcases List.mem_cons.1 hp with e | e
      · rw [e]; exact hq
      · exact ih h p e
theorem firstP_of (l : List (List UInt8)) (h : ∀ p ∈ l, isP p = true) : firstP l = 0 := by
  induction l with
  | nil => rfl
  | cons q r ih =>
    unfold firstP
    rw [h q (by simp), ih (fun p hp => h p (by simp [hp]))]; rfl

/-- a path that is moved: what it is -/
theorem moveP_parts (a b c : List UInt8) (ha : isP a = true) (hb : isP b = true) (hc : isP c = true) :
    moveP a b c = if parts b <+: parts a then (if isP (glue (parts c ++ (parts a).drop (parts b).length)) = true then (glue (parts c ++ (parts a).drop (parts b).length), 0) else ([], 3)) else ([], 141) := by
  have h0 : firstP [a, b, c] = 0 := firstP_of _ (by simp [ha, hb, hc])
  unfold moveP
  rw [h0, restP_parts a b ha hb]
  simp only [ne_eq, not_true_eq_false, if_false]
  by_cases hp : parts b <+: parts a
  · rw [if_pos hp, if_pos hp]
    simp only
    have hg : Good ((parts a).drop (parts b).length) := (isP_good ha).sub (fun n hn => List.mem_of_mem_drop hn)
    have hpd : isP (glue ((parts a).drop (parts b).length)) = true := by
      refine (isP_glue _ hg).2 ?_
      have h1 := restP_parts a b ha hb
      rw [if_pos hp] at h1
      have hl : (glue ((parts a).drop (parts b).length)).length ≤ a.length := by
        unfold restP at h1
        split at h1
        · injection h1 with h1; rw [← h1]; exact Nat.le_refl _
        · split at h1
          · injection h1 with h1; rw [← h1]; simp
          · split at h1
            · injection h1 with h1; rw [← h1, List.length_drop]; omega
            · cases h1
      have h2 := (isP_iff a).1 ha
      exact ⟨by omega, by rw [List.length_drop]; omega⟩
    rw [joinP_parts c _ hc hpd, parts_glue _ hg]
    by_cases hh : isP (glue (parts c ++ (parts a).drop (parts b).length)) = true
    · rw [if_pos hh, if_pos hh]
    · rw [if_neg hh, if_neg hh]
  · rw [if_neg hp, if_neg hp]
theorem moveP_zero (a b c s : List UInt8) (h : moveP a b c = (s, 0)) : isP a = true ∧ isP b = true ∧ isP c = true := by
  have h0 : firstP [a, b, c] = 0 := by
    by_cases e : firstP [a, b, c] = 0
    · exact e
    · unfold moveP at h
      rw [if_pos e] at h
      exact absurd (congrArg Prod.snd h) e
  have := firstP_zero _ h0
  exact ⟨this a (by simp), this b (by simp), this c (by simp)⟩
theorem moveP_back (a b c s : List UInt8) (h : moveP a b c = (s, 0)) : moveP s c b = (a, 0) ∧ inP a b = true ∧ inP s c = true := by
  obtain ⟨ha, hb, hc⟩ := moveP_zero a b c s h
  rw [moveP_parts a b c ha hb hc] at h
  by_cases hp : parts b <+: parts a
  · rw [if_pos hp] at h
    split at h
    · rename_i hs
      have hse := congrArg Prod.fst h
      simp only at hse
      have hg : Good (parts c ++ (parts a).drop (parts b).length) := (isP_good hc).append ((isP_good ha).sub (fun n hn => List.mem_of_mem_drop hn))
      have hps : parts s = parts c ++ (parts a).drop (parts b).length := by rw [← hse, parts_glue _ hg]
      rw [hse] at hs
      have hin : inP s c = true := (inP_iff _ _).2 ⟨hs, hc, by rw [hps]; exact List.prefix_append _ _⟩
      refine ⟨?_, (inP_iff _ _).2 ⟨ha, hb, hp⟩, hin⟩
      have hab : parts b ++ (parts a).drop (parts b).length = parts a := by
        obtain ⟨D, hD⟩ := hp
        rw [← hD, List.drop_left]
      rw [moveP_parts s c b hs hc hb, hps, if_pos (List.prefix_append _ _), List.drop_left, hab, glue_parts, if_pos ha]
    · exact absurd (congrArg Prod.snd h) (by simp)
  · rw [if_neg hp] at h
    exact absurd (congrArg Prod.snd h) (by simp)
end Go.Proofs.YtggnglgehobglaaGreatDoor
