import Derived.Test.YtiafhbpklddlnaaGreatDoorE26
import Derived.Sort.BigQuietIn
/- What Each tells, where the loop's body may leave. -/
namespace Go.Proofs.YtiafhbpklddlnaaGreatDoor
open Go.RowKit Go.Shelf

attribute [local go_sem] Oper.semAt_some

set_option maxRecDepth 100000 in
set_option maxHeartbeats 4000000 in
theorem each_tellsB (w : World) (j d : Nat) (nm : ByteArray) (rs : List (List UInt8)) (sz : Nat) (cut : Bool) (Fp : Nat → Prop) (h : JAt w j d nm rs sz cut Fp) (B : Nat) (hB : w.cell? ⟨B, 0, none⟩ = some (.pointer (some ⟨j, 0, none⟩))) (n : Nat) (hn : 1 ≤ n) :
    TellsB Fence.wide n Tryz.prog 47 #[.pointer (some ⟨B, 0, none⟩)] Rec.encs (Rec.ok rs) (fun k => Fp k ∨ k = B) (Came rs rs.length) w := by
  intro l J Jx W hW hJg hJxg hY h0
  have hJW := h.below hW
  have hcB : W.cell? ⟨B, 0, none⟩ = some (.pointer (some ⟨j, 0, none⟩)) := (hW.cell (p := ⟨B, 0, none⟩) (World.block_lt_of_cell? w _ hB)).trans hB
  refine callsIn_of_wp Tryz.func47 rfl trivial ?_ rfl
  simp only [Tryz.ntmps47, List.size_toArray, List.length_cons, List.length_nil, Nat.reduceAdd, Nat.reduceSub, Array.replicate_succ, Array.replicate_zero, List.push_toArray, List.append_toArray, List.nil_append, List.cons_append]
  obtain ⟨g, na, full, A, v, xs, hp, hA, hv⟩ := hJW.pay
  have cl := hp.cl
  obtain ⟨va, vc, rfl, hvc⟩ : ∃ va vc, v = .slice va rs.length vc ∧ rs.length ≤ 9223372036854775807 := by
    rcases hp.row.2 with ⟨rfl, h1⟩ | ⟨b, cap, cur, rfl, _, _, h3, h4, _⟩
    · exact ⟨none, 0, by rw [h1], by omega⟩
    · unfold maxLen at h4
      exact ⟨_, _, rfl, by omega⟩
  obtain ⟨N, hN⟩ : ∃ N, N = rs.length := ⟨_, rfl⟩
  have HN : Hid (N = rs.length) := hN
  rw [← hN] at cl hvc
  have HP : Hid (PayAt W j 2 rs g na full A (.slice va N vc) xs) := by rw [hN]; exact hp
  have hv' : ∀ k, (Value.slice va N vc).ownBlock = some k → Fp k := by rw [hN]; exact hv
  have hcnt := hJW.cnt
  have hsm := hJW.small
  have hjF : Fp j := hJW.fj
  clear hN hp hv
  gi_wp2
  gi_loopw [13] (fun i wr => ∃ (k : Nat) (pre : List Rec), k ≤ N ∧ i = .int .i64 k ∧ Hid (J pre wr ∧ Came rs k pre ∧ Keep (fun k => Fp k ∨ k = B) W wr)) (fun i _ => N - (intOf i).toNat)
  case atStart => exact ⟨0, [], Nat.zero_le _, rfl, h0, ⟨rfl, fun i x hx => by simp at hx⟩, Keep.refl _ _⟩
  case round =>
    obtain ⟨k, pre, hk, rfl, H⟩ := hrel
    by_cases hlt : k < N
    · have hkn : k < rs.length := by rw [← HN.out]; exact hlt
      have hpr : PayAt wr j 2 rs g na full A (.slice va N vc) xs := HP.out.kept (H.out.2.2.2 j (.inl hjF)) (fun i hi => H.out.2.2.2 i (.inl (hA i hi))) (fun i hi => H.out.2.2.2 i (.inl (hv' i hi)))
      obtain ⟨a, c, hx, hac, hnil, hb⟩ := hpr.bytes k hkn
      have hle := offs_le rs k hkn
      rcases hpr.cell with ⟨_, e⟩ | ⟨b, cap, e, _, _, hc⟩
      · rw [e] at hkn; simp at hkn
      · obtain rfl : va = some ⟨b, 0, none⟩ := by injection e
        clear e
        have hck := hc k _ hx
        clear hc hpr hx
        obtain ⟨m, hm⟩ : ∃ m, m = (rc rs k).length := ⟨_, rfl⟩
        have Hm : Hid (m = (rc rs k).length) := hm
        rw [← hm] at hck hb hac hnil hle
        clear hm
        have i2 : (k : Int) < (N : Int) := by omega
        have Hlt : Hid (∀ i, (Fp i ∨ i = B) → i < wr.heap.size) := fun i hi => by
          have h1 := H.out.2.2.1
          rcases hi with hi | rfl
          · exact Nat.lt_of_lt_of_le (hJW.lt i hi) h1
          · exact Nat.lt_of_lt_of_le (World.block_lt_of_cell? W _ hcB) h1
        have HY : Hid (∀ a' c' w2, w2.ownsRow wr.heap.size 5 1 (.slice a' m c') m (cellsOf (rc rs k)) → Below wr.heap.size wr w2 → YieldAt Fence.wide (n - 1) Tryz.prog l #[.int .i64 (k : Int), .slice a' m c'] w2 fun e W' => (e = .returned (.bool true) ∧ J (pre ++ [⟨k, rc rs k, a', c'⟩]) W' ∧ Keep (fun k => Fp k ∨ k = B) w2 W') ∨ (e = .returned (.bool false) ∧ Jx (pre ++ [⟨k, rc rs k, a', c'⟩]) W')) := fun a' c' w2 hown hB2 => by
          have := hY pre ⟨k, rc rs k, a', c'⟩ w2 (hJg _ _ _ H.out.1 ⟨hB2.os, hB2.tape, hB2.output, hB2.size, fun i hi _ => hB2.block i hi⟩) ⟨H.out.2.1.1.symm, hkn, rfl, by show Bytes w2 a' (rc rs k).length (rc rs k); rw [← Hm.out]; exact (ownsRow_toBytes hown).1⟩
          simp only [Rec.encs] at this
          rw [← Hm.out] at this
          exact this
        gi_wp2_with (refine ⟨trivial, ?_⟩; gi_at_call 38; refine (callsIn_wide.2 (clone_any a m c (rc rs k) wr hb hnil (by omega))).mono ?_; rintro e w2 ⟨a', c', rfl, hown, hB2, hnc, hnn⟩; have hY2 := HY.out a' c' w2 hown hB2; obtain ⟨fn, tmps, assign, body, hy, hR⟩ := hY2)
        refine hR.mono ?_
        rintro e W3 (⟨rfl, hJ3, hk3⟩ | ⟨rfl, hJ3⟩)
        · have HE : Hid (J (pre ++ [⟨k, rc rs k, a', c'⟩]) W3 ∧ Came rs (k + 1) (pre ++ [⟨k, rc rs k, a', c'⟩]) ∧ Keep (fun k => Fp k ∨ k = B) W W3) :=
            ⟨hJ3, H.out.2.1.snoc _ rfl rfl, (H.out.2.2.trans ⟨hB2.size, fun i hi => hB2.block i (Hlt.out i hi)⟩).trans hk3⟩
          gi_wp2
          go_roundw
          case rel => exact ⟨k + 1, _, by omega, by simp, HE⟩
          case measure => simp [intOf]; omega
        · have HE : Hid (Jx (pre ++ [⟨k, rc rs k, a', c'⟩]) W3) := hJ3
          gi_wp2
          refine bodyPost_ret (results_none rfl _ _ _) rfl ?_
          exact ⟨⟨_, rfl⟩, .inr ⟨_, HE.out⟩⟩
    · obtain rfl : k = N := by omega
      gi_wp2
      go_end0
      exact ⟨⟨_, rfl⟩, .inl ⟨pre, by rw [← HN.out]; exact H.out.2.1, H.out.1⟩⟩

end Go.Proofs.YtiafhbpklddlnaaGreatDoor

/- A region that only reads, in a round of a range over a function: it goes as it goes outside of one. Of no program. -/
namespace Go.Proofs.YtiafhbpklddlnaaGreatDoor
open Go.RowKit Go.Shelf

def noDefer (o : Oper) : Bool := match o.op with
  | .defer _ => false
  | _ => true
theorem noDefer_ne {o : Oper} (h : noDefer o = true) (c : Call) : o.op ≠ .defer c := fun e => by unfold noDefer at h; rw [e] at h; cases h

theorem oper_round {F : Fence} {n : Nat} {P : Program} {o : Oper} {a : Act} {w : World} {K : Act → World → Prop} {Q : Exit → Act → World → Prop} (r : Nat) (hro : F.round = none) (hd : noDefer o = true) (h : o.wpIn F n P a w K Q) : o.wpIn (F.inRound r) n P a w K Q := by
  refine ⟨h.1, ?_⟩
  have h2 := h.2
  rw [hro, Oper.semAt_none] at h2
  rw [Fence.inRound_round, Oper.semAt_some r _ _ (noDefer_ne hd)]
  generalize (execOp a.eval o).run P w = x at h2 ⊢
  cases x with
  | ok x w' => cases x <;> exact h2
  | halt x w' => cases x <;> exact h2

theorem any_round {F : Fence} {n : Nat} {P : Program} {md : Region.Mode} {ops : Array Oper} {Q : Exit → Act → World → Prop} (r : Nat) (hro : F.round = none) (hd : ∀ (i : Nat) o, ops[i]? = some o → noDefer o = true) :
    ∀ (fuel : Nat) (listed : Array Bool) (a : Act) (w : World), wpAnyIn F n P md ops Q fuel listed a w → wpAnyIn (F.inRound r) n P md ops Q fuel listed a w
  | 0, _, _, _, h => h
  | fuel + 1, listed, a, w, h => by
    refine ⟨h.1, fun i hi => ?_⟩
    have hk := h.2 i hi
    unfold wpOpIn at hk ⊢
    cases ho : ops[i]? with
    | none =>
      rw [ho] at hk
      exact any_round r hro hd fuel _ a w hk
    | some o =>
      rw [ho] at hk
      simp only at hk ⊢
      split at hk
      · rename_i hw
        rw [if_pos hw]
        exact Oper.wpIn_mono (fun a w => any_round r hro hd fuel _ a w) (oper_round r hro (hd i o ho) hk)
      · rename_i hw
        rw [if_neg hw]
        exact ⟨hk.1, any_round r hro hd fuel _ _ w hk.2⟩

theorem region_quiet_round {F : Fence} {n : Nat} {P : Program} {id : Nat} {Q : Exit → Act → World → Prop} {a : Act} {w : World} {l : List Oper} {r : Nat} (hro : F.round = none) (hm : P.follows .mixedOrders = true) (hB : Region.lexB .any l.toArray = true) (hd : l.all noDefer = true)
    (h : wpQuietIn F n P l.toArray (fun w' => ∃ n, w' = w.drewN n) (fun a' => ∀ w', (∃ n, w' = w.drewN n) → Q .normal a' w') l a) : (Code.region id l.toArray true).wpIn (F.inRound r) n P Q a w := by
  simp only [Region.lexB, Bool.and_eq_true] at hB
  refine wpIn_region_any hm (any_round r hro (fun i o ho => ?_) _ _ _ _ (wpAnyIn_of_quiet (Q := fun a' => ∀ w', (∃ n, w' = w.drewN n) → Q .normal a' w') (C := fun w' => ∃ n, w' = w.drewN n) hro (fun _ w' hw' h => h w' hw') _ _ _ _ ⟨1, rfl⟩ ?_))
  · rw [List.all_eq_true] at hd
    refine hd o ?_
    have : l[i]? = some o := by simpa using ho
    exact List.mem_of_getElem? this
  · have := wpAnyQIn_lex (F := F) (n := n) (P := P) (C := fun w' => ∃ n, w' = w.drewN n) (Q := fun a' => ∀ w', (∃ n, w' = w.drewN n) → Q .normal a' w') (md := .any) hB.1 l.toArray.toList 0 (Array.replicate l.toArray.size false) a (by simp) (by simpa using hB.2) (by simpa using h)
    simpa using this

end Go.Proofs.YtiafhbpklddlnaaGreatDoor
