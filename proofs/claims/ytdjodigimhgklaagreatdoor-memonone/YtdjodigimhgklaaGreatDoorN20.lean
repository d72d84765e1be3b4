import Derived.Test.YtdjodigimhgklaaGreatDoorN17
import Derived.Test.YtdjodigimhgklaaGreatDoorN10
/- What Each tells: each record with its number, in order, in new memory. -/
namespace Go.Proofs.YtdjodigimhgklaaGreatDoor
open Go.RowKit Go.Shelf

attribute [local go_sem] Oper.semAt_some

/-- a record as the loop's body is handed it: its number, its bytes, the slice that leads to them -/
structure Rec where
  k : Nat
  l : List UInt8
  a : Option Addr
  c : Nat
abbrev Rec.encs (x : Rec) : Array Value := #[.int .i64 (x.k : Int), .slice x.a x.l.length x.c]
/-- what the memory holds of it -/
def Rec.ok (rs : List (List UInt8)) (pre : List Rec) (x : Rec) (W : World) : Prop := x.k = pre.length ∧ x.k < rs.length ∧ x.l = rc rs x.k ∧ Bytes W x.a x.l.length x.l

theorem each_any (w : World) (p : Option Addr) : Calls Tryz.prog 78 #[.pointer p] w fun e w' => e = .returned (.func (.func 122) #[] #[.pointer (some ⟨w.heap.size, 0, none⟩)]) ∧ w' = w.alloc (.cells #[.pointer p] 86) := by
  go_enter Tryz.func78, Tryz.ntmps78
  go_wp2
  go_ret
  exact ⟨rfl, rfl⟩

/-- what has come when k rounds are over -/
def Came (rs : List (List UInt8)) (k : Nat) (xs : List Rec) : Prop := xs.length = k ∧ ∀ i x, xs[i]? = some x → x.k = i ∧ x.l = rc rs i

theorem Came.snoc {rs : List (List UInt8)} {k : Nat} {xs : List Rec} (h : Came rs k xs) (x : Rec) (h1 : x.k = k) (h2 : x.l = rc rs k) : Came rs (k + 1) (xs ++ [x]) := by
  refine ⟨by rw [List.length_append, h.1]; rfl, fun i y hy => ?_⟩
  by_cases hi : i < xs.length
  · rw [List.getElem?_append_left hi] at hy
    exact h.2 i y hy
  · rw [List.getElem?_append_right (by omega)] at hy
    have h0 : i - xs.length = 0 := by
      by_cases e : i - xs.length = 0
      · exact e
      · obtain ⟨j, hj⟩ : ∃ j, i - xs.length = j + 1 := ⟨i - xs.length - 1, by omega⟩
        rw [hj] at hy; simp at hy
    rw [h0] at hy
    simp at hy
    subst hy
    have : i = k := by have := h.1; omega
    subst this
    exact ⟨h1, h2⟩

set_option maxRecDepth 100000 in
set_option maxHeartbeats 4000000 in
theorem each_tells (w : World) (j d : Nat) (nm : ByteArray) (rs : List (List UInt8)) (sz : Nat) (cut : Bool) (Fp : Nat → Prop) (h : JAt w j d nm rs sz cut Fp) (B : Nat) (hB : w.cell? ⟨B, 0, none⟩ = some (.pointer (some ⟨j, 0, none⟩))) (n : Nat) (hn : 1 ≤ n) :
    Tells Fence.wide n Tryz.prog 122 #[.pointer (some ⟨B, 0, none⟩)] Rec.encs (Rec.ok rs) (fun k => Fp k ∨ k = B) (Came rs rs.length) w := by
  intro l J W hW hJg hY h0
  have hJW := h.below hW
  have hcB : W.cell? ⟨B, 0, none⟩ = some (.pointer (some ⟨j, 0, none⟩)) := (hW.cell (p := ⟨B, 0, none⟩) (World.block_lt_of_cell? w _ hB)).trans hB
  refine callsIn_of_wp Tryz.func122 rfl trivial ?_ rfl
  simp only [Tryz.ntmps122, List.size_toArray, List.length_cons, List.length_nil, Nat.reduceAdd, Nat.reduceSub, Array.replicate_succ, Array.replicate_zero, List.push_toArray, List.append_toArray, List.nil_append, List.cons_append]
  obtain ⟨g, na, full, A, v, xs, hp, hA, hv⟩ := hJW.pay
  have cl := hp.cl
  obtain ⟨va, vc, rfl, hvc⟩ : ∃ va vc, v = .slice va rs.length vc ∧ rs.length ≤ 9223372036854775807 := by
    rcases hp.row.2 with ⟨rfl, h1⟩ | ⟨b, cap, cur, rfl, _, _, h3, h4, _⟩
    · exact ⟨none, 0, by rw [h1], by omega⟩
    · unfold maxLen at h4
      exact ⟨_, _, rfl, by omega⟩
  obtain ⟨N, hN⟩ : ∃ N, N = rs.length := ⟨_, rfl⟩
  have HN : Hid (N = rs.length) := hN
  rw [← hN] at cl hvc
  have HP : Hid (PayAt W j 2 rs g na full A (.slice va N vc) xs) := by rw [hN]; exact hp
  have hv' : ∀ k, (Value.slice va N vc).ownBlock = some k → Fp k := by rw [hN]; exact hv
  have hcnt := hJW.cnt
  have hsm := hJW.small
  have hjF : Fp j := hJW.fj
  clear hN hp hv
  gi_wp2
  gi_loopw [13] (fun i wr => ∃ (k : Nat) (pre : List Rec), k ≤ N ∧ i = .int .i64 k ∧ Hid (J pre wr ∧ Came rs k pre ∧ Keep (fun k => Fp k ∨ k = B) W wr)) (fun i _ => N - (intOf i).toNat)
  case atStart => exact ⟨0, [], Nat.zero_le _, rfl, h0, ⟨rfl, fun i x hx => by simp at hx⟩, Keep.refl _ _⟩
  case round =>
    obtain ⟨k, pre, hk, rfl, H⟩ := hrel
    by_cases hlt : k < N
    · have hkn : k < rs.length := by rw [← HN.out]; exact hlt
      have hpr : PayAt wr j 2 rs g na full A (.slice va N vc) xs := HP.out.kept (H.out.2.2.2 j (.inl hjF)) (fun i hi => H.out.2.2.2 i (.inl (hA i hi))) (fun i hi => H.out.2.2.2 i (.inl (hv' i hi)))
      obtain ⟨a, c, hx, hac, hnil, hb⟩ := hpr.bytes k hkn
      have hle := offs_le rs k hkn
      rcases hpr.cell with ⟨_, e⟩ | ⟨b, cap, e, _, _, hc⟩
      · rw [e] at hkn; simp at hkn
      · obtain rfl : va = some ⟨b, 0, none⟩ := by injection e
        clear e
        have hck := hc k _ hx
        clear hc hpr hx
        obtain ⟨m, hm⟩ : ∃ m, m = (rc rs k).length := ⟨_, rfl⟩
        have Hm : Hid (m = (rc rs k).length) := hm
        rw [← hm] at hck hb hac hnil hle
        clear hm
        have i2 : (k : Int) < (N : Int) := by omega
        have Hlt : Hid (∀ i, (Fp i ∨ i = B) → i < wr.heap.size) := fun i hi => by
          have h1 := H.out.2.2.1
          rcases hi with hi | rfl
          · exact Nat.lt_of_lt_of_le (hJW.lt i hi) h1
          · exact Nat.lt_of_lt_of_le (World.block_lt_of_cell? W _ hcB) h1
        have HY : Hid (∀ a' c' w2, w2.ownsRow wr.heap.size 5 1 (.slice a' m c') m (cellsOf (rc rs k)) → Below wr.heap.size wr w2 → YieldAt Fence.wide (n - 1) Tryz.prog l #[.int .i64 (k : Int), .slice a' m c'] w2 fun e W' => e = .returned (.bool true) ∧ J (pre ++ [⟨k, rc rs k, a', c'⟩]) W' ∧ Keep (fun k => Fp k ∨ k = B) w2 W') := fun a' c' w2 hown hB2 => by
          have := hY pre ⟨k, rc rs k, a', c'⟩ w2 (hJg _ _ _ H.out.1 ⟨hB2.os, hB2.tape, hB2.output, hB2.size, fun i hi _ => hB2.block i hi⟩) ⟨H.out.2.1.1.symm, hkn, rfl, by show Bytes w2 a' (rc rs k).length (rc rs k); rw [← Hm.out]; exact (ownsRow_toBytes hown).1⟩
          simp only [Rec.encs] at this
          rw [← Hm.out] at this
          exact this
        gi_wp2_with (refine ⟨trivial, ?_⟩; gi_at_call 54; refine (callsIn_wide.2 (clone_any a m c (rc rs k) wr hb hnil (by omega))).mono ?_; rintro e w2 ⟨a', c', rfl, hown, hB2, hnc, hnn⟩; have hY2 := HY.out a' c' w2 hown hB2; obtain ⟨fn, tmps, assign, body, hy, hR⟩ := hY2)
        refine hR.mono ?_
        rintro e W3 ⟨rfl, hJ3, hk3⟩
        have HE : Hid (J (pre ++ [⟨k, rc rs k, a', c'⟩]) W3 ∧ Came rs (k + 1) (pre ++ [⟨k, rc rs k, a', c'⟩]) ∧ Keep (fun k => Fp k ∨ k = B) W W3) :=
          ⟨hJ3, H.out.2.1.snoc _ rfl rfl, (H.out.2.2.trans ⟨hB2.size, fun i hi => hB2.block i (Hlt.out i hi)⟩).trans hk3⟩
        gi_wp2
        go_roundw
        case rel => exact ⟨k + 1, _, by omega, by simp, HE⟩
        case measure => simp [intOf]; omega
    · obtain rfl : k = N := by omega
      gi_wp2
      go_end0
      exact ⟨⟨_, rfl⟩, pre, by rw [← HN.out]; exact H.out.2.1, H.out.1⟩

end Go.Proofs.YtdjodigimhgklaaGreatDoor

/- What Each tells, where the loop's body may leave. -/
namespace Go.Proofs.YtdjodigimhgklaaGreatDoor
open Go.RowKit Go.Shelf

attribute [local go_sem] Oper.semAt_some

set_option maxRecDepth 100000 in
set_option maxHeartbeats 4000000 in
theorem each_tellsB (w : World) (j d : Nat) (nm : ByteArray) (rs : List (List UInt8)) (sz : Nat) (cut : Bool) (Fp : Nat → Prop) (h : JAt w j d nm rs sz cut Fp) (B : Nat) (hB : w.cell? ⟨B, 0, none⟩ = some (.pointer (some ⟨j, 0, none⟩))) (n : Nat) (hn : 1 ≤ n) :
    TellsB Fence.wide n Tryz.prog 122 #[.pointer (some ⟨B, 0, none⟩)] Rec.encs (Rec.ok rs) (fun k => Fp k ∨ k = B) (Came rs rs.length) w := by
  intro l J Jx W hW hJg hJxg hY h0
  have hJW := h.below hW
  have hcB : W.cell? ⟨B, 0, none⟩ = some (.pointer (some ⟨j, 0, none⟩)) := (hW.cell (p := ⟨B, 0, none⟩) (World.block_lt_of_cell? w _ hB)).trans hB
  refine callsIn_of_wp Tryz.func122 rfl trivial ?_ rfl
  simp only [Tryz.ntmps122, List.size_toArray, List.length_cons, List.length_nil, Nat.reduceAdd, Nat.reduceSub, Array.replicate_succ, Array.replicate_zero, List.push_toArray, List.append_toArray, List.nil_append, List.cons_append]
  obtain ⟨g, na, full, A, v, xs, hp, hA, hv⟩ := hJW.pay
  have cl := hp.cl
  obtain ⟨va, vc, rfl, hvc⟩ : ∃ va vc, v = .slice va rs.length vc ∧ rs.length ≤ 9223372036854775807 := by
    rcases hp.row.2 with ⟨rfl, h1⟩ | ⟨b, cap, cur, rfl, _, _, h3, h4, _⟩
    · exact ⟨none, 0, by rw [h1], by omega⟩
    · unfold maxLen at h4
      exact ⟨_, _, rfl, by omega⟩
  obtain ⟨N, hN⟩ : ∃ N, N = rs.length := ⟨_, rfl⟩
  have HN : Hid (N = rs.length) := hN
  rw [← hN] at cl hvc
  have HP : Hid (PayAt W j 2 rs g na full A (.slice va N vc) xs) := by rw [hN]; exact hp
  have hv' : ∀ k, (Value.slice va N vc).ownBlock = some k → Fp k := by rw [hN]; exact hv
  have hcnt := hJW.cnt
  have hsm := hJW.small
  have hjF : Fp j := hJW.fj
  clear hN hp hv
  gi_wp2
  gi_loopw [13] (fun i wr => ∃ (k : Nat) (pre : List Rec), k ≤ N ∧ i = .int .i64 k ∧ Hid (J pre wr ∧ Came rs k pre ∧ Keep (fun k => Fp k ∨ k = B) W wr)) (fun i _ => N - (intOf i).toNat)
  case atStart => exact ⟨0, [], Nat.zero_le _, rfl, h0, ⟨rfl, fun i x hx => by simp at hx⟩, Keep.refl _ _⟩
  case round =>
    obtain ⟨k, pre, hk, rfl, H⟩ := hrel
    by_cases hlt : k < N
    · have hkn : k < rs.length := by rw [← HN.out]; exact hlt
      have hpr : PayAt wr j 2 rs g na full A (.slice va N vc) xs := HP.out.kept (H.out.2.2.2 j (.inl hjF)) (fun i hi => H.out.2.2.2 i (.inl (hA i hi))) (fun i hi => H.out.2.2.2 i (.inl (hv' i hi)))
      obtain ⟨a, c, hx, hac, hnil, hb⟩ := hpr.bytes k hkn
      have hle := offs_le rs k hkn
      rcases hpr.cell with ⟨_, e⟩ | ⟨b, cap, e, _, _, hc⟩
      · rw [e] at hkn; simp at hkn
      · obtain rfl : va = some ⟨b, 0, none⟩ := by injection e
        clear e
        have hck := hc k _ hx
        clear hc hpr hx
        obtain ⟨m, hm⟩ : ∃ m, m = (rc rs k).length := ⟨_, rfl⟩
        have Hm : Hid (m = (rc rs k).length) := hm
        rw [← hm] at hck hb hac hnil hle
        clear hm
        have i2 : (k : Int) < (N : Int) := by omega
        have Hlt : Hid (∀ i, (Fp i ∨ i = B) → i < wr.heap.size) := fun i hi => by
          have h1 := H.out.2.2.1
          rcases hi with hi | rfl
          · exact Nat.lt_of_lt_of_le (hJW.lt i hi) h1
          · exact Nat.lt_of_lt_of_le (World.block_lt_of_cell? W _ hcB) h1
        have HY : Hid (∀ a' c' w2, w2.ownsRow wr.heap.size 5 1 (.slice a' m c') m (cellsOf (rc rs k)) → Below wr.heap.size wr w2 → YieldAt Fence.wide (n - 1) Tryz.prog l #[.int .i64 (k : Int), .slice a' m c'] w2 fun e W' => (e = .returned (.bool true) ∧ J (pre ++ [⟨k, rc rs k, a', c'⟩]) W' ∧ Keep (fun k => Fp k ∨ k = B) w2 W') ∨ (e = .returned (.bool false) ∧ Jx (pre ++ [⟨k, rc rs k, a', c'⟩]) W')) := fun a' c' w2 hown hB2 => by
          have := hY pre ⟨k, rc rs k, a', c'⟩ w2 (hJg _ _ _ H.out.1 ⟨hB2.os, hB2.tape, hB2.output, hB2.size, fun i hi _ => hB2.block i hi⟩) ⟨H.out.2.1.1.symm, hkn, rfl, by show Bytes w2 a' (rc rs k).length (rc rs k); rw [← Hm.out]; exact (ownsRow_toBytes hown).1⟩
          simp only [Rec.encs] at this
          rw [← Hm.out] at this
          exact this
        gi_wp2_with (refine ⟨trivial, ?_⟩; gi_at_call 54; refine (callsIn_wide.2 (clone_any a m c (rc rs k) wr hb hnil (by omega))).mono ?_; rintro e w2 ⟨a', c', rfl, hown, hB2, hnc, hnn⟩; have hY2 := HY.out a' c' w2 hown hB2; obtain ⟨fn, tmps, assign, body, hy, hR⟩ := hY2)
        refine hR.mono ?_
        rintro e W3 (⟨rfl, hJ3, hk3⟩ | ⟨rfl, hJ3⟩)
        · have HE : Hid (J (pre ++ [⟨k, rc rs k, a', c'⟩]) W3 ∧ Came rs (k + 1) (pre ++ [⟨k, rc rs k, a', c'⟩]) ∧ Keep (fun k => Fp k ∨ k = B) W W3) :=
            ⟨hJ3, H.out.2.1.snoc _ rfl rfl, (H.out.2.2.trans ⟨hB2.size, fun i hi => hB2.block i (Hlt.out i hi)⟩).trans hk3⟩
          gi_wp2
          go_roundw
          case rel => exact ⟨k + 1, _, by omega, by simp, HE⟩
          case measure => simp [intOf]; omega
        · have HE : Hid (Jx (pre ++ [⟨k, rc rs k, a', c'⟩]) W3) := hJ3
          gi_wp2
          refine bodyPost_ret (results_none rfl _ _ _) rfl ?_
          exact ⟨⟨_, rfl⟩, .inr ⟨_, HE.out⟩⟩
    · obtain rfl : k = N := by omega
      gi_wp2
      go_end0
      exact ⟨⟨_, rfl⟩, .inl ⟨pre, by rw [← HN.out]; exact H.out.2.1, H.out.1⟩⟩

end Go.Proofs.YtdjodigimhgklaaGreatDoor
