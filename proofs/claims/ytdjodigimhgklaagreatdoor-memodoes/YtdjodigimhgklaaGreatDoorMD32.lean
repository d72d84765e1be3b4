import Derived.Test.YtdjodigimhgklaaGreatDoorMD29
import Derived.Test.YtdjodigimhgklaaGreatDoorMD26
import Derived.Test.YtdjodigimhgklaaGreatDoorMD14
import Derived.Test.YtdjodigimhgklaaGreatDoorMD10
import Derived.Test.YtdjodigimhgklaaGreatDoorMD07
/- The memo's readRecords: what the records say counts. -/
namespace Go.Proofs.YtdjodigimhgklaaGreatDoor
open Go.RowKit Go.Shelf Go.Maps

attribute [local go_sem] Oper.semAt_some

set_option maxRecDepth 20000 in
theorem ystep_dec (w : World) {ops : Array Oper} {o : Oper} {a : Act} {K : Act → World → Prop} {Q : Exit → Act → World → Prop} {E : Prop} (hw : Region.wanted o (yielded ops a.tmps) = true) (x0 : Nat) (ty0 : TypeId)
    (ho : o.op = .call { callee := .value (.func 79), args := #[.tmp x0], argTypes := #[ty0] }) (vx0 : Value) (hx0 : a.tmps[x0]?.getD undef = vx0) (R : Value → World → Prop)
    (hc : Calls Tryz.prog 79 #[vx0] w fun e w' => ∃ v, e = .returned v ∧ R v w') (hK : ∀ v w', R v w' → K (a.put o.dst v) w') :
    if Region.wanted o (yielded ops a.tmps) = true then Oper.wp Tryz.prog o a w K Q else E := by
  rw [if_pos hw]
  unfold Oper.wp execOp
  simp [ho, resolve, invoke, go_sem, hx0]
  refine hc.mono ?_
  rintro e w' ⟨v, rfl, hR⟩
  have := hK v w' hR
  simpa [go_sem] using this
theorem rc_at (ds : List (List UInt8)) (i : Nat) (h : i < ds.length) : ds[i]? = some (rc ds i) := by
  unfold rc
  rw [List.getD_eq_getElem?_getD, List.getElem?_eq_getElem h]
  rfl
theorem decL_spec (b : List UInt8) : ∀ (k : Nat) (acc : List Nat) (p : Nat) (e : Int) (l : List Nat) (p' : Nat) (e' : Int), decL b k acc p e = some (l, p', e') → (∀ x ∈ acc, x ≠ 0 ∧ x ≤ 2147483648) → acc.Nodup → l.length = acc.length + k ∧ l.Nodup ∧ ∀ x ∈ l, x ≠ 0 ∧ x ≤ 2147483648
  | 0, acc, p, e, l, p', e', h, ha, hn => by
    cases h
    exact ⟨rfl, hn, ha⟩
  | k + 1, acc, p, e, l, p', e', h, ha, hn => by
    rw [decL] at h
    split at h
    · cases h
    · rename_i hx
      have h0 : (yuR b p e).1 ≠ 0 := fun h => hx (.inl h)
      have h1 : (yuR b p e).1 ≤ 2147483648 := by
        have : ¬ 2147483648 < (yuR b p e).1 := fun h => hx (.inr (.inl h))
        omega
      have h2 : (yuR b p e).1 ∉ acc := fun h => hx (.inr (.inr h))
      obtain ⟨q1, q2, q3⟩ := decL_spec b k _ _ _ l p' e' h (fun x hm => by
        rcases List.mem_append.1 hm with hm | hm
        · exact ha x hm
        · rw [List.mem_singleton.1 hm]
          exact ⟨h0, h1⟩) (List.nodup_append.2 ⟨hn, by simp, fun x hm y hy e => h2 (by rw [← List.mem_singleton.1 hy, ← e]; exact hm)⟩)
      refine ⟨?_, q2, q3⟩
      rw [q1, List.length_append, List.length_singleton]
      omega
theorem decR_spec (b : List UInt8) : (decR b).1.length ≤ 4 ∧ (decR b).1.Nodup ∧ ∀ x ∈ (decR b).1, x ≠ 0 ∧ x ≤ 2147483648 := by
  unfold decR
  split
  · simp
  · rename_i h4
    split
    · simp
    · rename_i l p e hd
      obtain ⟨q1, q2, q3⟩ := decL_spec b _ _ _ _ _ _ _ hd (fun x h => by cases h) List.nodup_nil
      split
      · refine ⟨?_, q2, q3⟩
        rw [List.length_nil] at q1
        show l.length ≤ 4
        omega
      · simp
/-- one record more: the numbers, the greatest one of all, whether it is one -/
def recS (st : List Nat × Nat × Bool) (b : List UInt8) : List Nat × Nat × Bool := ((decR b).1, (decR b).1.foldl max st.2.1, (decR b).2)
/-- what the records say -/
def recF (st : List Nat × Nat × Bool) (rs : List (List UInt8)) : List Nat × Nat × Bool := rs.foldl recS st
theorem recF_next (st : List Nat × Nat × Bool) (rs : List (List UInt8)) (k : Nat) (h : k < rs.length) : recF st (rs.take (k + 1)) = recS (recF st (rs.take k)) (rc rs k) := by
  unfold recF
  rw [List.take_add_one, rc_at rs k h, Option.toList_some, List.foldl_append]
  rfl
/-- a memo's box while the records are read -/
abbrev memC (d j : Nat) (g : Me) (vr : Value) (top : Nat) (pa : Option Addr) (pc : Nat) : Obj := .cells #[.pointer (some ⟨d, 0, none⟩), .int .u64 (g.key : Int), .pointer (some ⟨j, 0, none⟩), vr, .int .i64 (top : Int), .slice pa g.ps.length pc, .bool g.failed] 91 (0, 0)
def RecI (w3 : World) (m d j Bs : Nat) (g : Me) (pa : Option Addr) (pc : Nat) (FM : Nat → Prop) (rs : List (List UInt8)) (pre : List Rec) (W : World) : Prop :=
  Turn (fun k => k = m ∨ k = Bs) w3 W ∧ Boxed W Bs 4 (.bool (recF (g.runs, g.top, true) (rs.take pre.length)).2.2) ∧
    ∃ vr, W.ownsRow 0 3 1 vr (recF (g.runs, g.top, true) (rs.take pre.length)).1.length ((recF (g.runs, g.top, true) (rs.take pre.length)).1.map nV) ∧
      (∀ k, vr.ownBlock = some k → (FM k ∧ k ≠ m) ∨ w3.heap.size ≤ k) ∧ W.heap[m]? = some (memC d j g vr (recF (g.runs, g.top, true) (rs.take pre.length)).2.1 pa pc)
theorem recI_own (w3 : World) (m d j Bs : Nat) (g : Me) (pa : Option Addr) (pc : Nat) (FM : Nat → Prop) (rs : List (List UInt8)) (hm : m < w3.heap.size) (hB : Bs < w3.heap.size) : OwnFrom w3.heap.size (RecI w3 m d j Bs g pa pc FM rs) := by
  rintro pre X Y row ⟨hT, hb, vr, h1, h2, h3⟩ hgr hr
  refine ⟨vturn_own (β := List Rec) pre X Y row hT hgr hr, hb.kept hgr (fun e => by have := (hr Bs e.symm).1; omega), vr, yrow_move h1 (fun q hq => ?_), h2, ?_⟩
  · obtain ⟨_, hlt, cur, hc⟩ := nrow_block h1 q hq
    refine hgr.block q hlt (fun e => ?_)
    obtain ⟨_, o, ho, hoc⟩ := hr q e.symm
    rw [hc] at ho
    cases ho
    cases hoc
  · rw [hgr.block m (Nat.lt_of_lt_of_le hm hT.size) (fun e => by have := (hr m e.symm).1; omega)]
    exact h3
/-- what readRecords answers -/
def RecsA (w : World) (m d j : Nat) (g : Me) (pa : Option Addr) (pc : Nat) (FM : Nat → Prop) (rs : List (List UInt8)) (e : Ending) (w' : World) : Prop :=
  e = .returned (.bool (recF (g.runs, g.top, true) rs).2.2) ∧ Turn (fun k => k = m) w w' ∧
    ∃ vr F', MeAt w' m d j { g with runs := (recF (g.runs, g.top, true) rs).1, top := (recF (g.runs, g.top, true) rs).2.1 } vr pa pc F' ∧ ∀ k, F' k → FM k ∨ w.heap.size ≤ k

set_option maxRecDepth 100000 in
set_option maxHeartbeats 8000000 in
theorem readRecords_any (w : World) (m d j : Nat) (g : Me) (vr : Value) (pa : Option Addr) (pc : Nat) (FM : Nat → Prop) (h : MeAt w m d j g vr pa pc FM) (nm : ByteArray) (rs : List (List UInt8)) (sz : Nat) (cut : Bool) (FJ : Nat → Prop) (hJ : JAt w j d nm rs sz cut FJ) (hF : ∀ k, FM k → ¬ FJ k) :
    Calls Tryz.prog 38 #[.pointer (some ⟨m, 0, none⟩)] w (RecsA w m d j g pa pc FM rs) := by
  have hmx : Tryz.prog.follows .mixedOrders = true := by kernel_rfl
  obtain ⟨c0, c1, c2, c3, c4, c5, c6⟩ := h.cells
  have hml := h.mlt
  have hrl : ∀ r ∈ rs, r.length ≤ 549755813888 := by
    intro r hr
    have h1 := hJ.cnt
    have h2 := hJ.small
    have h3 : r.length ≤ rs.flatten.length := by
      obtain ⟨a, b, e⟩ := List.append_of_mem hr
      rw [e]; simp; omega
    omega
  obtain ⟨w3, hw3⟩ : ∃ w3, w3 = (((w.alloc (.cells #[.pointer (some ⟨m, 0, none⟩)] 28)).alloc (.cells #[.bool true] 4)).alloc (.cells #[.pointer (some ⟨j, 0, none⟩)] 86)) := ⟨_, rfl⟩
  have hB3 : Below w.heap.size w w3 := by rw [hw3]; exact (((Below.refl _ w).alloc (Nat.le_refl _) _).alloc (by simp) _).alloc (by simp; omega) _
  have hs3 : w3.heap.size = w.heap.size + 3 := by rw [hw3]; simp
  have bm3 : Boxed w3 w.heap.size 28 (.pointer (some ⟨m, 0, none⟩)) := by rw [hw3]; exact ((Boxed.new w _ _).alloc _).alloc _
  have bs3 : Boxed w3 (w.heap.size + 1) 4 (.bool true) := by
    rw [hw3]
    have := (Boxed.new (w.alloc (.cells #[.pointer (some ⟨m, 0, none⟩)] 28)) 4 (.bool true)).alloc (.cells #[.pointer (some ⟨j, 0, none⟩)] 86)
    rwa [World.size_alloc] at this
  have bj3 : Boxed w3 (w.heap.size + 2) 86 (.pointer (some ⟨j, 0, none⟩)) := by
    rw [hw3]
    have := Boxed.new ((w.alloc (.cells #[.pointer (some ⟨m, 0, none⟩)] 28)).alloc (.cells #[.bool true] 4)) 86 (.pointer (some ⟨j, 0, none⟩))
    rwa [World.size_alloc, World.size_alloc] at this
  have HH : Hid (MeAt w3 m d j g vr pa pc FM ∧ JAt w3 j d nm rs sz cut FJ ∧ Boxed w3 w.heap.size 28 (.pointer (some ⟨m, 0, none⟩)) ∧ Boxed w3 (w.heap.size + 1) 4 (.bool true) ∧ Boxed w3 (w.heap.size + 2) 86 (.pointer (some ⟨j, 0, none⟩)) ∧ w3.heap.size = w.heap.size + 3 ∧ Below w.heap.size w w3) := ⟨h.below hB3, hJ.kept hB3.size (fun k hk => hB3.block k (hJ.lt k hk)), bm3, bs3, bj3, hs3, hB3⟩
  have HF : Hid ((∀ k, FM k → k < w.heap.size) ∧ ∀ k, FJ k → k < w.heap.size) := ⟨h.lt, hJ.lt⟩
  have hfm := h.fm
  clear h hJ c0 c1 c3 c4 c5 c6 hB3 hs3 bm3 bs3 bj3
  refine (callsIn_wide (n := 5)).1 ?_
  refine callsIn_of_wp_marks Tryz.func38 rfl trivial ?_ rfl
  simp only [Tryz.ntmps38, List.size_toArray, List.length_cons, List.length_nil, Nat.reduceAdd, Nat.reduceSub, Array.replicate_succ, Array.replicate_zero, List.push_toArray, List.append_toArray, List.nil_append, List.cons_append]
  refine wpIn_wide.2 ?_
  go_wp2_with fail
  refine (each_any _ _).mono ?_
  rintro e w' ⟨rfl, rfl⟩
  go_wp2_with fail
  rw [← hw3]
  clear hw3 c2
  refine (wpIn_wide (n := 5)).1 ?_
  have hs3 := HH.out.2.2.2.2.2.1
  refine range_both (w := w3) rfl (by omega) (gf := 122) (lb := #[.pointer (some ⟨w.heap.size + 1 + 1, 0, none⟩)]) rfl trivial (enters_of Tryz.func122 (by kernel_rfl) rfl)
    (each_tellsB w3 j d nm rs sz cut FJ HH.out.2.1 (w.heap.size + 1 + 1) HH.out.2.2.2.2.1.cell 4 (by omega)) (fun _ => rfl) (fun k hk => hk.elim (fun h => by have := HF.out.2 k h; omega) (fun e => by omega))
    (RecI w3 m d j (w.heap.size + 1) g pa pc FM rs)
    (fun _ _ _ => False)
    (recI_own w3 m d j (w.heap.size + 1) g pa pc FM rs (by omega) (by omega)) (fun _ _ _ _ _ h _ _ => h) ?px
    ⟨Turn.refl _ _, HH.out.2.2.2.1, vr, HH.out.1.row, fun k e => .inl (HH.out.1.fr k e), HH.out.1.box⟩
    ?act ?assign ?body ?done ?stop
  case assign =>
    intro l x W K hK
    gi_wp2
    exact hK
  case px =>
    intro pre x s X Y row hs hg hr
    exact ⟨hs.1, hs.2.1, hs.2.2.1, by
      refine ⟨hs.2.2.2.1, fun h0 => ?_⟩
      obtain ⟨b, off, e, hc⟩ := hs.2.2.2.2 h0
      exact ⟨b, off, e, fun i hi => cell_kept (hc i hi) hg (fun r e => (hr r e).2)⟩⟩
  case body =>
    rintro l pre ⟨k, lx, ax, cx⟩ W hl3 ⟨hTW, bS, vrW, hrow, hblk, hbox⟩ ⟨hxk, hxlt, hxl, hxb⟩
    simp only at hxk hxlt hxl hxb ⊢
    have hlm : lx.length ≤ 549755813888 := by
      rw [hxl]; exact hrl _ (List.mem_of_getElem? (rc_at rs k hxlt))
    have hsW := hTW.size
    have bMW : Boxed W w.heap.size 28 (.pointer (some ⟨m, 0, none⟩)) := (hTW.block _ HH.out.2.2.1.lt (by omega)).trans HH.out.2.2.1
    have HN : Hid (recF (g.runs, g.top, true) (rs.take (pre ++ [(⟨k, lx, ax, cx⟩ : Rec)]).length) = recS (recF (g.runs, g.top, true) (rs.take pre.length)) lx) := by
      rw [List.length_append, ← hxk, hxl]
      exact recF_next _ rs k hxlt
    rw [← hxk] at HN bS hrow hbox
    obtain ⟨R0, T0, s0, hst⟩ : ∃ R T s, recF (g.runs, g.top, true) (rs.take k) = (R, T, s) := ⟨_, _, _, rfl⟩
    rw [hst] at HN bS hrow hbox
    simp only at bS hrow hbox
    have hs3a : w.heap.size + 3 ≤ w3.heap.size := Nat.le_of_eq hs3.symm
    have hs3b : w3.heap.size ≤ w.heap.size + 3 := Nat.le_of_eq hs3
    clear hxk hs3
    have hcs := bMW.cell
    have hfs := bS.frozen
    have HX : Hid (Turn (fun k => k = m ∨ k = w.heap.size + 1) w3 W ∧ Boxed W (w.heap.size + 1) 4 (.bool s0) ∧ Boxed W w.heap.size 28 (.pointer (some ⟨m, 0, none⟩)) ∧ W.heap[m]? = some (memC d j g vrW T0 pa pc) ∧ Bytes W ax lx.length lx) := ⟨hTW, bS, bMW, hbox, hxb⟩
    clear hTW bS bMW hrow hblk hbox hst hxb hxl
    obtain ⟨L, ok, hdr⟩ : ∃ L ok, decR lx = (L, ok) := ⟨_, _, rfl⟩
    have hdec := decode_anyY W.drew ax lx.length cx lx HX.out.2.2.2.2 (by omega)
    rw [hdr] at hdec
    have hL4 : L.length ≤ 4 := by
      have := (decR_spec lx).1
      rwa [hdr] at this
    have HN2 : Hid (recS (R0, T0, s0) lx = (L, L.foldl max T0, ok)) := by
      show recS _ _ = _
      unfold recS
      rw [hdr]
    clear hdr
    gi_wp2_with fail
    have n1 : ¬ w.heap.size + 1 = m := by omega
    have n2 : ¬ m = w.heap.size + 1 := by omega
    have n3 : ¬ w.heap.size = m := by omega
    have hB0 : Below W.heap.size W W.drew := ⟨rfl, rfl, rfl, Nat.le_refl _, fun _ _ => rfl⟩
    refine region_G_round (S := SB 1000 (fun _ => True) (fun Y => Y.cell? ⟨w.heap.size, 0, none⟩ = some (.pointer (some ⟨m, 0, none⟩)))) hmx (by kernel_rfl) (fun ⟨_, _, h⟩ => h) ?_
    have hSB : SB 1000 (fun _ => True) (fun Y => Y.cell? ⟨w.heap.size, 0, none⟩ = some (.pointer (some ⟨m, 0, none⟩))) (Array.replicate 10 false) W.drew := SB.on trivial hcs
    refine wpAnyG_takeP (i := 0) (v := ?_) rfl (by kernel_rfl) (by kernel_rfl) (by kernel_rfl) (fun _ _ _ h => h) rfl (Or.inl ⟨by rfl, ?_⟩) (by assumption) ?_
    rotate_left
    · intro Y y1; go_simp; try with_reducible rfl
    intro hSB0
    try simp only [Act.put, List.getElem_toArray, List.getElem_cons_zero, List.setIfInBounds_toArray, List.set_cons_zero, List.set_cons_succ]
    refine wpAnyG_takeP (i := 1) (v := ?_) rfl (by kernel_rfl) (by kernel_rfl) (by kernel_rfl) (fun _ _ _ h => h) rfl (Or.inl ⟨by rfl, ?_⟩) (by assumption) ?_
    rotate_left
    · intro Y _; go_simp; try with_reducible rfl
    intro hSB1
    try simp only [Act.put, List.getElem_toArray, List.getElem_cons_zero, List.getElem_cons_succ, List.setIfInBounds_toArray, List.set_cons_zero, List.set_cons_succ]
    refine wpAnyG_one (i := 2) (by kernel_rfl) rfl (fun K hK => ?_)
    refine ystep_dec _ (by rfl) _ _ (by rfl) _ (by rfl) (fun v W1 => ∃ (ad : Option Addr) (c : Nat), v = .tuple #[.slice ad L.length c, .bool ok] ∧ W1.ownsRow W.heap.size 3 1 (.slice ad L.length c) L.length (L.map nV) ∧ Below W.heap.size W W1) (hdec.mono (fun e w' h => by obtain ⟨a, c, h1, h2, h3⟩ := h; exact ⟨_, h1, a, c, rfl, h2, hB0.trans h3⟩)) ?_
    rintro v W1 ⟨ad, cd, rfl, hown1, hB1⟩
    have b0 := (hB1.block _ HX.out.2.2.1.lt).trans HX.out.2.2.1
    have cs1 : W1.cell? ⟨w.heap.size, 0, none⟩ = some (.pointer (some ⟨m, 0, none⟩)) := Boxed.cell b0
    refine hK.out _ _ (SB.on trivial cs1) (fun hSB2 => ?_)
    clear hK K
    try simp only [Act.put, List.getElem_toArray, List.getElem_cons_zero, List.getElem_cons_succ, List.setIfInBounds_toArray, List.set_cons_zero, List.set_cons_succ]
    refine wpAnyG_takeP (i := 3) (v := ?_) rfl (by kernel_rfl) (by kernel_rfl) (by kernel_rfl) (fun _ _ _ h => h) rfl (Or.inl ⟨by rfl, ?_⟩) (by assumption) ?_
    rotate_left
    · intro Y _; go_simp; try with_reducible rfl
    intro hSB3
    try simp only [Act.put, List.getElem_toArray, List.getElem_cons_zero, List.getElem_cons_succ, List.setIfInBounds_toArray, List.set_cons_zero, List.set_cons_succ]
    refine wpAnyG_takeP (i := 4) (v := ?_) rfl (by kernel_rfl) (by kernel_rfl) (by kernel_rfl) (fun _ _ _ h => h) rfl (Or.inl ⟨by rfl, ?_⟩) (by assumption) ?_
    rotate_left
    · intro Y _; go_simp; try with_reducible rfl
    intro hSB4
    try simp only [Act.put, List.getElem_toArray, List.getElem_cons_zero, List.getElem_cons_succ, List.setIfInBounds_toArray, List.set_cons_zero, List.set_cons_succ]
    refine wpAnyG_takeP (i := 5) (v := ?_) rfl (by kernel_rfl) (by kernel_rfl) (by kernel_rfl) (fun _ _ _ h => h) rfl (Or.inl ⟨by rfl, ?_⟩) (by assumption) ?_
    rotate_left
    · intro Y _; go_simp; try with_reducible rfl
    intro hSB5
    try simp only [Act.put, List.getElem_toArray, List.getElem_cons_zero, List.getElem_cons_succ, List.setIfInBounds_toArray, List.set_cons_zero, List.set_cons_succ]
    refine wpAnyG_takeP (i := 6) (v := ?_) rfl (by kernel_rfl) (by kernel_rfl) (by kernel_rfl) (fun _ _ _ h => h) rfl (Or.inl ⟨by rfl, ?_⟩) (by assumption) ?_
    rotate_left
    · intro Y _; go_simp; try with_reducible rfl
    intro hSB6
    try simp only [Act.put, List.getElem_toArray, List.getElem_cons_zero, List.getElem_cons_succ, List.setIfInBounds_toArray, List.set_cons_zero, List.set_cons_succ]
    refine wpAnyG_takeP (i := 7) (v := ?_) rfl (by kernel_rfl) (by kernel_rfl) (by kernel_rfl) (fun _ _ _ h => h) rfl (Or.inl ⟨by rfl, ?_⟩) (by assumption) ?_
    rotate_left
    · intro Y _; go_simp; try with_reducible rfl
    intro hSB7
    try simp only [Act.put, List.getElem_toArray, List.getElem_cons_zero, List.getElem_cons_succ, List.setIfInBounds_toArray, List.set_cons_zero, List.set_cons_succ]
    have hm1 : W1.heap[m]? = some (memC d j g vrW T0 pa pc) := (hB1.block m (by omega)).trans HX.out.2.2.2.1
    have b1 : Boxed W1 (w.heap.size + 1) 4 (.bool s0) := (hB1.block _ HX.out.2.1.lt).trans HX.out.2.1
    have q3 : W1.cell? ⟨m, 3, none⟩ = some vrW := by simp [World.cell?, hm1, memC]
    have f3 : W1.frozen? ⟨m, 3, none⟩ = false := by simp [World.frozen?, hm1, memC]
    have qs := b1.cell
    have fs := b1.frozen
    have n4 : m ≠ w.heap.size := by omega
    refine wpAnyG_one (i := 8) (by kernel_rfl) rfl (fun K hK => ?_)
    go_simp
    refine hK.out _ _ (SB.on trivial ((World.cell?_setCell_other _ _ _ _ (by first | (simp; done) | (simp; omega))).trans cs1)) (fun hSB8 => ?_)
    clear hK K
    try simp only [Act.put, List.getElem_toArray, List.getElem_cons_zero, List.getElem_cons_succ, List.setIfInBounds_toArray, List.set_cons_zero, List.set_cons_succ]
    obtain ⟨W5, hW5⟩ : ∃ W5, W5 = (W1.setCell ⟨m, 3, none⟩ (.slice ad L.length cd)).setCell ⟨w.heap.size + 1, 0, none⟩ (.bool ok) := ⟨_, rfl⟩
    refine wpAnyG_one (i := 9) (by kernel_rfl) rfl (fun K hK => ?_)
    go_simp
    refine hK.out _ _ (SB.on trivial ((World.cell?_setCell_other _ _ _ _ (by simp)).trans ((World.cell?_setCell_other _ _ _ _ (by first | (simp; done) | (simp; omega))).trans cs1))) (fun hSB9 => ?_)
    clear hK K
    try simp only [Act.put, List.getElem_toArray, List.getElem_cons_zero, List.getElem_cons_succ, List.setIfInBounds_toArray, List.set_cons_zero, List.set_cons_succ]
    refine wpAnyG_done (by kernel_rfl) ?_ _
    clear hSB hSB0 hSB1 hSB2 hSB3 hSB4 hSB5 hSB6 hSB7 hSB8 hSB9
    rw [← hW5]
    clear hdec cs1 b0
    have H5 : Hid (W5.heap[m]? = some (memC d j g (.slice ad L.length cd) T0 pa pc) ∧ Boxed W5 (w.heap.size + 1) 4 (.bool ok) ∧ Boxed W5 w.heap.size 28 (.pointer (some ⟨m, 0, none⟩)) ∧ W5.ownsRow W.heap.size 3 1 (.slice ad L.length cd) L.length (L.map nV) ∧ Turn (fun k => k = m ∨ k = w.heap.size + 1) W W5) := by
      have hT5 : Turn (fun k => k = m ∨ k = w.heap.size + 1) W1 W5 := by
        rw [hW5]
        exact ((turn_setCell W1 m 3 _).wide (fun k e => .inl e)).trans (turn_setCell _ (w.heap.size + 1) 0 _) (fun _ _ e => .inr e)
      have hT1 : Turn (fun k => k = m ∨ k = w.heap.size + 1) W W5 := (Turn.of_below _ hB1).trans hT5 (fun _ _ e => e)
      refine ⟨?_, ?_, (hT1.block _ HX.out.2.2.1.lt (by omega)).trans HX.out.2.2.1, yrow_move hown1 (fun q hq => hT5.block q (nrow_block hown1 q hq).2.1 (by have := (nrow_block hown1 q hq).1; omega)), hT1⟩
      · rw [hW5, Below.heap_setCell _ _ _ _ (by show m ≠ w.heap.size + 1; omega)]
        simp [World.setCell, Array.getElem?_modify, hm1, Array.setIfInBounds, memC]
      · rw [hW5]
        have b2 : Boxed (W1.setCell ⟨m, 3, none⟩ (.slice ad L.length cd)) (w.heap.size + 1) 4 (.bool s0) := (Below.heap_setCell _ _ _ _ (by show w.heap.size + 1 ≠ m; omega)).trans b1
        exact Boxed.set (W := W1.setCell ⟨m, 3, none⟩ (.slice ad L.length cd)) (v := .bool s0) _ b2
    have HT3 : Hid (Turn (fun k => k = m ∨ k = w.heap.size + 1) w3 W) := HX.out.1
    clear hm1 b1 hown1 hB1 hW5 q3 f3 qs fs HX hB0
    obtain ⟨N, hN⟩ : ∃ N, N = L.length := ⟨_, rfl⟩
    have HNN : Hid (N = L.length) := hN
    have c3 : W5.cell? ⟨m, 3, none⟩ = some (.slice ad N cd) := by
      rw [hN]
      simp [World.cell?, H5.out.1, memC]
    have cb := H5.out.2.2.1.cell
    have hN4 : N ≤ 4 := by omega
    rw [← hN]
    clear hN
    gi_wp2_with fail
    gi_loopw [28] (fun i wr => ∃ q : Nat, q ≤ N ∧ i = .int .i64 (q : Int) ∧ Hid (wr.heap[m]? = some (memC d j g (.slice ad L.length cd) ((L.take q).foldl max T0) pa pc) ∧ Turn (fun k => k = m) W5 wr)) (fun i _ => N - (intOf i).toNat)
    case atStart => exact ⟨0, Nat.zero_le _, rfl, by rw [List.take_zero]; exact H5.out.1, Turn.refl _ _⟩
    case round =>
      obtain ⟨q, hq, rfl, HR⟩ := hrel
      have hsr := HR.out.2.size
      by_cases hlt : q < N
      · obtain ⟨x, hx⟩ : ∃ x, L[q]? = some x := ⟨_, List.getElem?_eq_getElem (by rw [← HNN.out]; exact hlt)⟩
        obtain ⟨b1, o1, rfl, hc1⟩ := (nrow_ns H5.out.2.2.2.1).2 (by rw [← HNN.out]; omega)
        have hbm : b1 ≠ m := by
          have := (nrow_block H5.out.2.2.2.1 b1 rfl).1
          omega
        have t1 := HR.out.2.cell (hc1 q x hx) hbm
        have i1 : (q : Int) < (N : Int) := by omega
        have i2 : ¬ N ≤ q := by omega
        have HT : Hid ((L.take (q + 1)).foldl max T0 = max ((L.take q).foldl max T0) x) := by
          show _ = _
          rw [List.take_add_one, hx, Option.toList_some, List.foldl_append]
          rfl
        obtain ⟨T, hT⟩ : ∃ T, T = (L.take q).foldl max T0 := ⟨_, rfl⟩
        have HR2 : Hid (wr.heap[m]? = some (memC d j g (.slice (some ⟨b1, o1, none⟩) L.length cd) T pa pc) ∧ Turn (fun k => k = m) W5 wr) := by rw [hT]; exact HR.out
        rw [← hT] at HT
        have hcs : wr.cell? ⟨w.heap.size, 0, none⟩ = some (.pointer (some ⟨m, 0, none⟩)) := HR2.out.2.cell H5.out.2.2.1.cell (by show ¬ w.heap.size = m; omega)
        have c4 : wr.cell? ⟨m, 4, none⟩ = some (.int .i64 (T : Int)) := by simp [World.cell?, HR2.out.1, memC]
        have f4 : wr.frozen? ⟨m, 4, none⟩ = false := by simp [World.frozen?, HR2.out.1, memC]
        clear hc1 hx hT HR
        gi_wp2_with fail
        refine region_G_round (S := SB 9 (fun Y => Y.cell? ⟨m, 4, none⟩ = some (.int .i64 (T : Int))) (fun Y => Y.cell? ⟨w.heap.size, 0, none⟩ = some (.pointer (some ⟨m, 0, none⟩)))) hmx (by kernel_rfl) (fun ⟨_, _, h⟩ => h) ?_
        have hSB : SB 9 (fun Y => Y.cell? ⟨m, 4, none⟩ = some (.int .i64 (T : Int))) (fun Y => Y.cell? ⟨w.heap.size, 0, none⟩ = some (.pointer (some ⟨m, 0, none⟩))) (Array.replicate 10 false) wr.drew := SB.on c4 hcs
        refine wpAnyG_takeP (i := 0) (v := ?_) rfl (by kernel_rfl) (by kernel_rfl) (by kernel_rfl) (fun _ _ _ h => h) rfl (Or.inl ⟨by rfl, ?_⟩) (by assumption) ?_
        rotate_left
        · intro Y y1; go_simp; try with_reducible rfl
        intro hSB0
        try simp only [Act.put, List.getElem_toArray, List.getElem_cons_zero, List.setIfInBounds_toArray, List.set_cons_zero, List.set_cons_succ]
        refine wpAnyG_takeP (i := 1) (v := ?_) rfl (by kernel_rfl) (by kernel_rfl) (by kernel_rfl) (fun _ _ _ h => h) rfl (Or.inl ⟨by rfl, ?_⟩) (by assumption) ?_
        rotate_left
        · intro Y y1; go_simp; try with_reducible rfl
        intro hSB1
        try simp only [Act.put, List.getElem_toArray, List.getElem_cons_zero, List.getElem_cons_succ, List.setIfInBounds_toArray, List.set_cons_zero, List.set_cons_succ]
        refine wpAnyG_takeP (i := 2) (v := ?_) rfl (by kernel_rfl) (by kernel_rfl) (by kernel_rfl) (fun _ _ _ h => h) rfl (Or.inl ⟨by rfl, ?_⟩) (by assumption) ?_
        rotate_left
        · intro Y _; go_simp; try with_reducible rfl
        intro hSB2
        try simp only [Act.put, List.getElem_toArray, List.getElem_cons_zero, List.getElem_cons_succ, List.setIfInBounds_toArray, List.set_cons_zero, List.set_cons_succ]
        refine wpAnyG_takeP (i := 3) (v := ?_) rfl (by kernel_rfl) (by kernel_rfl) (by kernel_rfl) (fun _ _ _ h => h) rfl (Or.inl ⟨by rfl, ?_⟩) (by assumption) ?_
        rotate_left
        · intro Y _; go_simp; try with_reducible rfl
        intro hSB3
        try simp only [Act.put, List.getElem_toArray, List.getElem_cons_zero, List.getElem_cons_succ, List.setIfInBounds_toArray, List.set_cons_zero, List.set_cons_succ]
        refine wpAnyG_takeB (i := 4) (b := 9) (v := ?_) rfl (by kernel_rfl) (by kernel_rfl) (by kernel_rfl) (fun _ _ _ h => h) rfl (by kernel_rfl) (by rfl) (by kernel_rfl) (Or.inl ⟨by rfl, ?_⟩) (by assumption) ?_
        rotate_left
        · intro Y hY; obtain ⟨y1, y2⟩ := hY; go_simp; try with_reducible rfl
        intro hSB4
        try simp only [Act.put, List.getElem_toArray, List.getElem_cons_zero, List.getElem_cons_succ, List.setIfInBounds_toArray, List.set_cons_zero, List.set_cons_succ]
        refine wpAnyG_takeP (i := 5) (v := ?_) rfl (by kernel_rfl) (by kernel_rfl) (by kernel_rfl) (fun _ _ _ h => h) rfl (Or.inl ⟨by rfl, ?_⟩) (by assumption) ?_
        rotate_left
        · intro Y _; go_simp; try with_reducible rfl
        intro hSB5
        try simp only [Act.put, List.getElem_toArray, List.getElem_cons_zero, List.getElem_cons_succ, List.setIfInBounds_toArray, List.set_cons_zero, List.set_cons_succ]
        have hmax : (max (T : Int) (x : Int)) = ((max T x : Nat) : Int) := by omega
        refine wpAnyG_one (i := 6) (by kernel_rfl) rfl (fun K hK => ?_)
        go_simp
        refine hK.out _ _ (SB.on c4 hcs) (fun hSB6 => ?_)
        clear hK K
        try simp only [Act.put, List.getElem_toArray, List.getElem_cons_zero, List.getElem_cons_succ, List.setIfInBounds_toArray, List.set_cons_zero, List.set_cons_succ]
        refine wpAnyG_takeP (i := 7) (v := ?_) rfl (by kernel_rfl) (by kernel_rfl) (by kernel_rfl) (fun _ _ _ h => h) rfl (Or.inl ⟨by rfl, ?_⟩) (by assumption) ?_
        rotate_left
        · intro Y _; go_simp; try with_reducible rfl
        intro hSB7
        try simp only [Act.put, List.getElem_toArray, List.getElem_cons_zero, List.getElem_cons_succ, List.setIfInBounds_toArray, List.set_cons_zero, List.set_cons_succ]
        refine wpAnyG_takeP (i := 8) (v := ?_) rfl (by kernel_rfl) (by kernel_rfl) (by kernel_rfl) (fun _ _ _ h => h) rfl (Or.inl ⟨by rfl, ?_⟩) (by assumption) ?_
        rotate_left
        · intro Y _; go_simp; try with_reducible rfl
        intro hSB8
        try simp only [Act.put, List.getElem_toArray, List.getElem_cons_zero, List.getElem_cons_succ, List.setIfInBounds_toArray, List.set_cons_zero, List.set_cons_succ]
        refine wpAnyG_one (i := 9) (by kernel_rfl) rfl (fun K hK => ?_)
        go_simp
        refine hK.out _ _ (SB.off (by kernel_rfl) ((World.cell?_setCell_other _ _ _ _ (by first | (simp; done) | (simp; omega))).trans hcs)) (fun hSB9 => ?_)
        clear hK K
        try simp only [Act.put, List.getElem_toArray, List.getElem_cons_zero, List.getElem_cons_succ, List.setIfInBounds_toArray, List.set_cons_zero, List.set_cons_succ]
        refine wpAnyG_done (by kernel_rfl) ?_ _
        clear hSB hSB0 hSB1 hSB2 hSB3 hSB4 hSB5 hSB6 hSB7 hSB8 hSB9
        have HZ : Hid ((wr.setCell ⟨m, 4, none⟩ (.int .i64 ((max T x : Nat) : Int))).drew.heap[m]? = some (memC d j g (.slice (some ⟨b1, o1, none⟩) L.length cd) ((L.take (q + 1)).foldl max T0) pa pc) ∧ Turn (fun k => k = m) W5 (wr.setCell ⟨m, 4, none⟩ (.int .i64 ((max T x : Nat) : Int))).drew) := by
          rw [HT.out]
          refine ⟨?_, (HR2.out.2.trans (turn_setCell wr m 4 _) (fun _ _ e => e)).trans (Turn.of_below _ ⟨rfl, rfl, rfl, Nat.le_refl _, fun _ _ => rfl⟩) (fun _ _ e => e)⟩
          show (wr.setCell ⟨m, 4, none⟩ (.int .i64 ((max T x : Nat) : Int))).heap[m]? = _
          simp [World.setCell, Array.getElem?_modify, HR2.out.1, Array.setIfInBounds, memC]
        clear HT HR2 hcs c4 f4 t1 hmax hsr
        gi_wp2
        go_roundw
        case rel => exact ⟨q + 1, by omega, by go_num, HZ.out⟩
        case measure => simp [intOf]; omega
      · obtain rfl : q = N := by omega
        have i1 : ¬ (q : Int) < (q : Int) := by omega
        have HZ : Hid (KeepsFrom w3.heap.size W wr ∧ Keep (fun k => FJ k ∨ k = w.heap.size + 1 + 1) W wr ∧ RecI w3 m d j (w.heap.size + 1) g pa pc FM rs (pre ++ [⟨k, lx, ax, cx⟩]) wr) := by
          have hTr := HR.out.2
          have hTT : Turn (fun k => k = m ∨ k = w.heap.size + 1) W wr := H5.out.2.2.2.2.trans (hTr.wide (fun k e => .inl e)) (fun _ _ e => e)
          have hs5 := H5.out.2.2.2.2.size
          refine ⟨ikeepsFrom_turn hTT (fun q o hq hB ho => by omega), ⟨hTT.size, fun q hq => hTT.block q ?_ ?_⟩, HT3.out.trans hTT (fun _ _ e => e), ?_, .slice ad L.length cd, ?_, fun q hq => .inr (by have := (nrow_block H5.out.2.2.2.1 q hq).1; omega), ?_⟩
          · rcases hq with hq | hq
            · have := HF.out.2 q hq; omega
            · omega
          · intro e
            rcases hq with hq | hq
            · rcases e with e | e
              · subst e; exact hF _ hfm hq
              · have := HF.out.2 q hq; omega
            · omega
          · rw [HN.out, HN2.out]
            exact (hTr.block _ H5.out.2.1.lt (by omega)).trans H5.out.2.1
          · rw [HN.out, HN2.out]
            have h2 : wr.ownsRow W.heap.size 3 1 (.slice ad L.length cd) L.length (L.map nV) := yrow_move H5.out.2.2.2.1 (fun q hq => by
              have := nrow_block H5.out.2.2.2.1 q hq
              exact hTr.block q this.2.1 (by omega))
            exact ⟨h2.1, h2.2.imp id fun ⟨z, cap, cur, a1, a2, a3⟩ => ⟨z, cap, cur, a1, Nat.zero_le _, a3⟩⟩
          · rw [HN.out, HN2.out]
            have := HR.out.1
            rwa [List.take_of_length_le (by rw [HNN.out]; exact Nat.le_refl _)] at this
        clear HR hsr
        gi_wp2
        exact HZ.out
  case done =>
    rintro D xs W hD hS ⟨hTW, bS, vrW, hrow, hblk, hbox⟩ hK
    have hxl : xs.length = rs.length := hS.1
    rw [hxl, List.take_length] at bS hrow hbox
    have cb := bS.cell
    obtain ⟨st, hst⟩ : ∃ st, st = recF (g.runs, g.top, true) rs := ⟨_, rfl⟩
    rw [← hst] at bS hrow hbox cb
    have HST : Hid (st = recF (g.runs, g.top, true) rs) := hst
    have HD : Hid (w3.heap.size ≤ D ∧ W.heap[D]? = some (.deferred (some [])) ∧ Turn (fun k => k = m ∨ k = w.heap.size + 1) w3 W ∧ W.ownsRow 0 3 1 vrW st.1.length (st.1.map nV) ∧ (∀ k, vrW.ownBlock = some k → (FM k ∧ k ≠ m) ∨ w3.heap.size ≤ k) ∧ W.heap[m]? = some (memC d j g vrW st.2.1 pa pc)) := ⟨hD, hK, hTW, hrow, hblk, hbox⟩
    clear hTW bS hrow hblk hbox hK hst
    go_wp2_with fail
    refine vfin_m (v := .bool st.2.2) HD.out.2.1 ?_ ?_
    · simp [results, Tryz.results38, go_sem]
    · obtain ⟨hD, hK, hTW, hrow, hblk, hbox⟩ := HD.out
      have hTD := vturn_put (.deferred none) hTW hD
      have hB3 := HH.out.2.2.2.2.2.2
      have hsz : (W.putObj D (.deferred none)).heap.size = W.heap.size := by simp
      have hsW := hTW.size
      have hM3 := HH.out.1
      have hrb := nrow_block hrow
      have hnD : ∀ q cur, W.heap[q]? = some (.cells cur 3 (0, 0)) → q ≠ D := fun q cur h e => by
        rw [e, hK] at h
        cases h
      refine ⟨by rw [HST.out], (Turn.of_below (fun k => k = m) hB3).trans hTD (fun i hi e => by
        rcases e with e | e
        · exact e
        · omega), vrW, fun k => FM k ∨ vrW.ownBlock = some k, ?_, fun k hk => ?_⟩
      · rw [← HST.out]
        exact {
          box := (World.putObj_heap_other (by omega)).trans hbox
          row := yrow_move hrow fun k e => World.putObj_heap_other (by
            obtain ⟨_, _, cur, hc⟩ := hrb k e
            exact hnD k cur hc)
          prs := hM3.prs.blocks fun h0 x e => hTD.block _ (hM3.lt _ (hM3.fp h0 x e).1) (by
            have h1 := (hM3.fp h0 x e).2
            have h2 := HF.out.1 _ (hM3.fp h0 x e).1
            omega)
          ris := hM3.ris
          ok := hM3.ok
          small := hM3.small
          fm := .inl hM3.fm
          fr := fun k e => ⟨.inr e, by
            rcases hblk k e with h | h
            · exact h.2
            · omega⟩
          fp := fun h0 x e => ⟨.inl (hM3.fp h0 x e).1, (hM3.fp h0 x e).2⟩
          lt := fun k hk => by
            rw [hsz]
            rcases hk with hk | hk
            · have := HF.out.1 k hk; omega
            · exact (hrb k hk).2.1 }
      · rcases hk with hk | hk
        · exact .inl hk
        · rcases hblk k hk with h | h
          · exact .inl h.1
          · exact .inr (by omega)
  case stop =>
    intro D c pre W hD h
    exact h.elim
end Go.Proofs.YtdjodigimhgklaaGreatDoor
