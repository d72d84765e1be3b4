/- The document's bytes of a tree. -/
import Derived.Test.YtdibdcbihleflaaOTree4
namespace Go.Proofs.Ytdibdcbihleflaa
open Go.RowKit

attribute [local go_sem] Oper.semAt_some

/-- bytes put together in a row of the call's own -/
structure RO (w : World) (l : List UInt8) (v : Value) (W : World) : Prop where
  own : OwnB w.heap.size l v W
  bel : Below w.heap.size w W
def Keeps' (W W' : World) : Prop := ∀ (K : Nat) (cs : Array Value) (t : TypeId), W.heap[K]? = some (.cells cs t (0, 0)) → t ≠ 5 → W'.heap[K]? = some (.cells cs t (0, 0))
theorem RO.below {w W W' : World} {l : List UInt8} {v : Value} (h : RO w l v W) (hb : Below W.heap.size W W') : RO w l v W' :=
  ⟨⟨h.own.row.kept (row := none) ⟨hb.os, hb.tape, hb.output, hb.size, fun k hk _ => hb.block k hk⟩ (by cases v.ownBlock <;> simp)⟩, h.bel.trans (hb.mono h.bel.size)⟩
theorem RO.alloc {w W : World} {l : List UInt8} {v : Value} (h : RO w l v W) (o : Obj) : RO w l v (W.alloc o) := h.below ((Below.refl _ _).alloc (Nat.le_refl _) _)
theorem wpList_ro (w W : World) {ops : Array Oper} {rest : List Oper} {o : Oper} {a : Act} {Q : Exit → Act → World → Prop} (hgd : o.guard = none) (s x : Operand)
    (ho : o.op = .call { callee := .builtin .append, args := #[s, x], argTypes := #[22, 22] })
    (v : Value) (l : List UInt8) (hs : a.eval s = v) (h : RO w l v W) (ad : Option Addr) (m c : Nat) (k : List UInt8) (hx : a.eval x = .slice ad m c) (hb : Bytes W ad m k) (hnil : ad = none → m = 0 ∧ c = 0) (hm : l.length + m ≤ 140737488355328)
    (hc : ∀ v' W', RO w (l ++ k) v' W' → Keeps' W W' → wpList Try.prog ops Q rest (a.put o.dst v') W') : wpList Try.prog ops Q (o :: rest) a W := by
  refine wpList_app W w.heap.size h.bel.size hgd s x ho v l.length _ hs h.own.row ad m c k hx hb hnil hm fun v' W' h2 h3 _ => hc v' W' ⟨⟨?_⟩, h.bel.trans (below_gr h.own.row h.bel.size h3)⟩ fun K cs t hK ht => ?_
  · rw [List.length_append, hb.1, cellsOf_append]
    exact h2
  · refine (h3.block K (Array.getElem?_eq_some_iff.1 hK).1 (fun e => ?_)).trans hK
    obtain ⟨_, _, cur, hcur⟩ := row_block h.own.row K e.symm
    rw [hK] at hcur
    cases hcur
    exact ht rfl
theorem Keeps'.box3 {W W' : World} {g : Nat} {u0 u1 u2 : Value} (h : Keeps' W W') (hb : Box3 W g u0 u1 u2) : Box3 W' g u0 u1 u2 := h g _ _ hb (by decide)

set_option maxRecDepth 100000 in
set_option maxHeartbeats 8000000 in
theorem refTree_any (a : Option Addr) (n c : Nat) (l : List Ent) (w : World) (h : Ents w a n l) (hf : Fields l) (hn : n ≤ 9223372036854775807) :
    Calls Try.prog 17 #[.slice a n c] w fun e w' => ∃ v, e = .returned (.tuple #[v, .int .i64 (treeErrs l)]) ∧ OwnB w.heap.size (if treeErrs l = 0 then treeB l else []) v w' ∧ Below w.heap.size w w' := by
  have hck := refCheckTree_any a n c l w h hf.name hn
  have hll := h.1
  by_cases h0 : treeErrs l = 0
  · obtain ⟨hl, hF⟩ := fits_of hf h0
    rw [if_pos h0]
    rw [h0] at hck ⊢
    have hsn := short_len n
    have hru := fun w => refUint_any n w (by omega)
    have hTB : treeB l = [116] ++ short n ++ entsB l := by unfold treeB; rw [hll]; simp
    rw [hTB]
    clear hTB h0
    go_enter Try.func17, Try.ntmps17
    go_wp2_with first
      | (go_at_call 42; refine hck.mono ?_; clear hck; rintro e w1 ⟨rfl, hB1⟩)
      | (go_at_call 43; refine (hru _).mono ?_; clear hru; rintro e w2 ⟨v2, rfl, ho2, hB2⟩; obtain ⟨ua, uc, hv2, hun⟩ := row_shape ho2; subst hv2; have hy2 := row_bytes ho2; have hB12 : Below w.heap.size w w2 := hB1.trans (hB2.mono hB1.size); have hR2 : RO w [116] (.slice (some ⟨w2.heap.size, 0, none⟩) 1 1) (w2.alloc (.cells #[.int .u8 116] 5)) := ⟨⟨World.ownsRow_lit w2 #[.int .u8 116] 1 hB12.size (by unfold maxLen; omega) rfl⟩, hB12.alloc hB12.size _⟩; have hy3 := bytes_below hy2 ((Below.refl _ w2).alloc (Nat.le_refl _) (.cells #[.int .u8 116] 5)); clear ho2 hy2 hB1 hB2 hB12)
      | (at_builtin; refine wpList_ro w _ rfl _ _ rfl _ [116] rfl hR2 ua _ uc (short n) rfl hy3 hun.2 (by simp only [List.length_singleton]; omega) ?_; intro v3 w3 hR3 _; have H3 : Hid (RO w ([116] ++ short n ++ entsB (l.take 0)) v3 w3) := (by have e : entsB (l.take 0) = [] := rfl; rw [e, List.append_nil]; exact hR3); clear hR3 hR2 hy3)
    go_loopw [5, 23] (fun v i wr => ∃ k : Nat, k ≤ n ∧ i = .int .i64 (k : Int) ∧ Hid (RO w ([116] ++ short n ++ entsB (l.take k)) v wr)) (fun _ i _ => n - (intOf i).toNat)
    case atStart => exact ⟨0, Nat.zero_le _, rfl, H3.out⟩
    case round =>
      clear H3
      obtain ⟨k, hk, rfl, H⟩ := hrel
      by_cases hlt : k < n
      · obtain ⟨x, hx⟩ : ∃ x, l[k]? = some x := ⟨_, List.getElem?_eq_getElem (by omega)⟩
        obtain ⟨b1, o1, rfl, hc1⟩ := h.2 (by omega)
        obtain ⟨t1, t2, t3⟩ := hc1 k x hx
        have hBw := H.out.bel
        have q1 := (hBw.cell (p := ⟨b1, o1 + k * 3, none⟩) (World.block_lt_of_cell? w _ t1)).trans t1
        have q2 := (hBw.cell (p := ⟨b1, o1 + k * 3 + 1, none⟩) (World.block_lt_of_cell? w _ t2)).trans t2
        have q3 := (hBw.cell (p := ⟨b1, o1 + k * 3 + 2, none⟩) (World.block_lt_of_cell? w _ t3)).trans t3
        have i2 : (k : Int) < (n : Int) := by omega
        have i3 : ¬ n ≤ k := by omega
        have HT := entsB_take l k x hx
        have hln := entsB_len l hF k (by omega)
        have hsz := hF.name k x hx
        have hid := hF.id k x hx
        obtain ⟨nm, fo, id⟩ := x
        simp only at q1 q2 q3 hsz hid HT
        obtain ⟨y, rfl⟩ := Int.eq_ofNat_of_zero_le hid.1
        have HTe : Hid ([116] ++ short n ++ entsB (l.take (k + 1)) = [116] ++ short n ++ entsB (l.take k) ++ (short nm.size ++ nm.data.toList) ++ [if fo then 1 else 0] ++ wide y) := by
          show _ = _
          rw [HT]
          simp [entB]
        generalize hP : [116] ++ short n ++ entsB (l.take k) = P at *
        have hPl : P.length ≤ 16384 := by rw [← hP]; simp only [List.length_append, List.length_singleton]; omega
        have hsm := short_len nm.size
        have hnl : nm.data.toList.length = nm.size := by simp
        have hrt := fun w => refText_any nm w (by omega)
        have bx : Box3 (wr.alloc (.cells #[.string nm, .bool fo, .int .u64 (y : Int)] 50)) wr.heap.size (.string nm) (.bool fo) (.int .u64 (y : Int)) := Box3.new wr _ _ _
        have hR2 := H.out.alloc (.cells #[.string nm, .bool fo, .int .u64 (y : Int)] 50)
        clear hP hc1 hx t1 t2 t3 hBw HT hln H
        cases fo with
        | false =>
          simp only [Bool.false_eq_true, if_false] at HTe
          go_wp2_with first
            | (go_at_call 44; refine (hrt _).mono ?_; clear hrt; rintro e x3 ⟨v3, rfl, ho3, hB3⟩; obtain ⟨ta, tc, hv3, htn⟩ := row_shape ho3; subst hv3; have hy3 := row_bytes ho3; have hR3 := hR2.below hB3; have bx3 := bx.below hB3 bx.lt; clear ho3 hR2 bx hB3)
            | (at_builtin; refine wpList_ro w _ rfl _ _ rfl _ P rfl hR3 ta _ tc (short nm.size ++ nm.data.toList) rfl hy3 htn.2 (by omega) ?_; intro v4 x4 hR4 hK4; have bx4 := hK4.box3 bx3; obtain ⟨c0, c1, c2⟩ := bx4.cell; have hR4' := hR4.alloc (.cells #[.int .u8 0] 5); clear hR3 hy3 hK4 bx3 hR4)
            | (at_builtin; refine wpList_ro w _ rfl _ _ rfl _ _ rfl hR4' (some ⟨_, 0, none⟩) 1 1 [0] rfl (bytes_new _ [0] _ rfl) (fun h => by cases h) (by simp only [List.length_append, hnl]; omega) ?_; intro v5 x5 hR5 hK5; have bx5 := hK5.box3 (bx4.below ((Below.refl _ _).alloc (Nat.le_refl _) _) bx4.lt); obtain ⟨d0, d1, d2⟩ := bx5.cell; clear hR4' hK5 bx4 c0 c1 c2 bx5)
            | (go_at_call 45; refine (refWord_any y _ (by omega)).mono ?_; rintro e x6 ⟨rfl, hy6, hB6⟩; have hR6 := hR5.below hB6; clear hR5 hB6)
            | (at_builtin; refine wpList_ro w _ rfl _ _ rfl _ _ rfl hR6 (some ⟨_, 0, none⟩) 8 8 (wide y) rfl hy6 (fun h => by cases h) (by simp only [List.length_append, hnl, List.length_singleton]; omega) ?_; intro v7 x7 hR7 _; have H7 : Hid (RO w ([116] ++ short n ++ entsB (l.take (k + 1))) v7 x7) := (by rw [HTe.out]; exact hR7); clear hR6 hy6 hR7)
          go_roundw
          case rel => exact ⟨k + 1, by omega, by simp, H7.out⟩
          case measure => simp [intOf]; omega
        | true =>
          simp only [if_true] at HTe
          go_wp2_with first
            | (go_at_call 44; refine (hrt _).mono ?_; clear hrt; rintro e x3 ⟨v3, rfl, ho3, hB3⟩; obtain ⟨ta, tc, hv3, htn⟩ := row_shape ho3; subst hv3; have hy3 := row_bytes ho3; have hR3 := hR2.below hB3; have bx3 := bx.below hB3 bx.lt; clear ho3 hR2 bx hB3)
            | (at_builtin; refine wpList_ro w _ rfl _ _ rfl _ P rfl hR3 ta _ tc (short nm.size ++ nm.data.toList) rfl hy3 htn.2 (by omega) ?_; intro v4 x4 hR4 hK4; have bx4 := hK4.box3 bx3; obtain ⟨c0, c1, c2⟩ := bx4.cell; have hR4' := hR4.alloc (.cells #[.int .u8 1] 5); clear hR3 hy3 hK4 bx3 hR4)
            | (at_builtin; refine wpList_ro w _ rfl _ _ rfl _ _ rfl hR4' (some ⟨_, 0, none⟩) 1 1 [1] rfl (bytes_new _ [1] _ rfl) (fun h => by cases h) (by simp only [List.length_append, hnl]; omega) ?_; intro v5 x5 hR5 hK5; have bx5 := hK5.box3 (bx4.below ((Below.refl _ _).alloc (Nat.le_refl _) _) bx4.lt); obtain ⟨d0, d1, d2⟩ := bx5.cell; clear hR4' hK5 bx4 c0 c1 c2 bx5)
            | (go_at_call 45; refine (refWord_any y _ (by omega)).mono ?_; rintro e x6 ⟨rfl, hy6, hB6⟩; have hR6 := hR5.below hB6; clear hR5 hB6)
            | (at_builtin; refine wpList_ro w _ rfl _ _ rfl _ _ rfl hR6 (some ⟨_, 0, none⟩) 8 8 (wide y) rfl hy6 (fun h => by cases h) (by simp only [List.length_append, hnl, List.length_singleton]; omega) ?_; intro v7 x7 hR7 _; have H7 : Hid (RO w ([116] ++ short n ++ entsB (l.take (k + 1))) v7 x7) := (by rw [HTe.out]; exact hR7); clear hR6 hy6 hR7)
          go_roundw
          case rel => exact ⟨k + 1, by omega, by simp, H7.out⟩
          case measure => simp [intOf]; omega
      · obtain rfl : k = n := by omega
        have i2 : ¬ (k : Int) < (k : Int) := by omega
        go_wp2
        go_ret2
        refine ⟨_, rfl, ?_, H.out.bel⟩
        have := H.out.own
        rw [List.take_of_length_le (by omega)] at this
        exact this
  · rw [if_neg h0]
    have h0' : (treeErrs l == 0) = false := beq_eq_false_iff_ne.2 h0
    generalize treeErrs l = E at *
    go_enter Try.func17, Try.ntmps17
    go_wp2_with (go_at_call 42; refine hck.mono ?_; clear hck; rintro e w1 ⟨rfl, hB1⟩)
    go_ret2
    exact ⟨_, rfl, ⟨World.ownsRow_nil _ _ _ _⟩, hB1⟩
end Go.Proofs.Ytdibdcbihleflaa
