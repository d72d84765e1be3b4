import Derived.Test.YtcbmofapnjdmgaaDoorDD34
import Derived.Test.YtcbmofapnjdmgaaDoorDD27
import Derived.Test.YtcbmofapnjdmgaaDoorDD08
import Derived.Deep.CutRange
import Derived.Deep.CutBlock
/- The walk of the law's does: many files more. -/
namespace Go.Proofs.YtcbmofapnjdmgaaDoor
open Go.RowKit Go.Maps

attribute [local go_sem] Oper.semAt_some

theorem itoa_short : ∀ k : Nat, k < 260 → (Lib.itoa (k : Int)).length ≤ 20 := by decide +kernel

set_option maxRecDepth 20000 in
theorem step_dappend (w : World) {ops : Array Oper} {o : Oper} {a : Act} {K : Act → World → Prop} {Q : Exit → Act → World → Prop} {E : Prop} (hw : Region.wanted o (yielded ops a.tmps) = true) (x0 x1 : Nat) (ty0 ty1 ty2 : TypeId)
    (ho : o.op = .call { callee := .value (.func 12), args := #[.tmp x0, .tmp x1, .const (.slice none 0 0)], argTypes := #[ty0, ty1, ty2] }) (vx0 vx1 : Value) (hx0 : a.tmps[x0]?.getD undef = vx0) (hx1 : a.tmps[x1]?.getD undef = vx1) (R : Value → World → Prop)
    (hc : Calls Tryd.prog 12 #[vx0, vx1, .slice none 0 0] w fun e w' => ∃ v, e = .returned v ∧ R v w') (hK : ∀ v w', R v w' → K (a.put o.dst v) w') :
    if Region.wanted o (yielded ops a.tmps) = true then Oper.wp Tryd.prog o a w K Q else E := by
  rw [if_pos hw]
  unfold Oper.wp execOp
  simp [ho, resolve, invoke, go_sem, hx0, hx1]
  refine hc.mono ?_
  rintro e w' ⟨v, rfl, hR⟩
  have := hK v w' hR
  simpa [go_sem] using this
set_option maxRecDepth 20000 in
theorem step_rappend (w : World) {ops : Array Oper} {o : Oper} {a : Act} {K : Act → World → Prop} {Q : Exit → Act → World → Prop} {E : Prop} (hw : Region.wanted o (yielded ops a.tmps) = true) (x0 x1 : Nat) (ty0 ty1 ty2 : TypeId)
    (ho : o.op = .call { callee := .value (.func 22), args := #[.tmp x0, .tmp x1, .const (.slice none 0 0)], argTypes := #[ty0, ty1, ty2] }) (vx0 vx1 : Value) (hx0 : a.tmps[x0]?.getD undef = vx0) (hx1 : a.tmps[x1]?.getD undef = vx1) (R : Value → World → Prop)
    (hc : Calls Tryd.prog 22 #[vx0, vx1, .slice none 0 0] w fun e w' => ∃ v, e = .returned v ∧ R v w') (hK : ∀ v w', R v w' → K (a.put o.dst v) w') :
    if Region.wanted o (yielded ops a.tmps) = true then Oper.wp Tryd.prog o a w K Q else E := by
  rw [if_pos hw]
  unfold Oper.wp execOp
  simp [ho, resolve, invoke, go_sem, hx0, hx1]
  refine hc.mono ?_
  rintro e w' ⟨v, rfl, hR⟩
  have := hK v w' hR
  simpa [go_sem] using this
set_option maxRecDepth 100000 in
set_option maxHeartbeats 8000000 in
theorem wdoes_many (w : World) (p q : Nat) (kind nn : Int) (nm nt : ByteArray) (ad : Option Addr) (ln cp : Nat) (l : List UInt8) (S : DG) (b : Nat) (Fp Gp : Nat → Prop) (h : Pair2 w p q S Fp Gp) (hi : OpIn w ⟨kind, nm, nt, nn, ad, ln, cp⟩ l Fp Gp) (hg : Good S b) (hb : b ≤ 1000000000) (hk : (IntKind.u64.wrap kind).tmod 9 = 8)
    (htab : ∀ W, Turn (fun k => Fp k ∨ Gp k) w W → Lib.TabIs Tryd.prog W "internal/strconv.uint64pow10" .u64 Lib.pow10Tab) :
    Calls Tryd.prog 11 #[.agg #[.pointer (some ⟨p, 0, none⟩), .pointer (some ⟨q, 0, none⟩)], .agg #[.int .i64 kind, .string nm, .string nt, .int .i64 nn, .slice ad ln cp]] w fun e w' => e = .returned (.bool true) ∧ DoOut w w' p q (b + 4194305) Fp Gp := by
  have hmx : Tryd.prog.follows .mixedOrders = true := by kernel_rfl
  have H0 : Hid (DoI w p q ⟨kind, nm, nt, nn, ad, ln, cp⟩ l Fp Gp ((w.alloc (.cells #[.pointer (some ⟨p, 0, none⟩), .pointer (some ⟨q, 0, none⟩)] 29)).alloc (.cells #[.int .i64 kind, .string nm, .string nt, .int .i64 nn, .slice ad ln cp] 34)) S S) := ⟨_, _, DoP.start h hi⟩
  have HI : Hid (nm.size ≤ maxLen) := hi.name
  have HT : Hid (∀ W, Turn (fun k => Fp k ∨ Gp k) w W → Lib.TabIs Tryd.prog W "internal/strconv.uint64pow10" .u64 Lib.pow10Tab) := htab
  have HG : Hid (Good S b) := hg
  have HG4 : Hid (Good S (b + 4194305)) := hg.more (by omega)
  obtain ⟨c0, c1, c2, c3, c4, c5, c6⟩ := H0.out.cells
  clear h hi hg htab
  by_cases hneg : nn < 0
  · have i5 : min nn 260 = nn := by omega
    have i6 : ¬ (0 : Int) < nn := by omega
    go_enter Tryd.func11, Tryd.ntmps11
    go_upto_block 3 with fail
    go_wp2_with fail
    go_loopw [9] (fun i wr => i = .int .i64 0 ∧ Hid (DoI w p q ⟨kind, nm, nt, nn, ad, ln, cp⟩ l Fp Gp wr S S)) (fun _ _ => 0)
    case atStart => exact ⟨rfl, H0.out⟩
    case round =>
      clear c0 c1 c2 c3 c4 c5 c6
      obtain ⟨rfl, H⟩ := hrel
      obtain ⟨c0, c1, c2, c3, c4, c5, c6⟩ := H.out.cells
      go_wp2_with (go_at_call 18; go_loud (refine (H.out.file HG4.out nm HI.out).mono ?_; rintro e w9 ⟨_, rfl, rfl, h9⟩; have H9 : Hid (DoOut w w9 p q (b + 4194305) Fp Gp) := DoI.out h9 HG4.out; clear h9))
      exact bodyPost_ret (v := .bool true) (by simp [results, Tryd.results11, go_sem]) rfl ⟨rfl, H9.out⟩
  · obtain ⟨N, hN⟩ : ∃ N : Nat, min nn 260 = (N : Int) := ⟨(min nn 260).toNat, by omega⟩
    have hN260 : N ≤ 260 := by omega
    have HNN : Hid (N ≤ 260) := hN260
    go_enter Tryd.func11, Tryd.ntmps11
    go_upto_block 3 with fail
    go_wp2_with fail
    go_loopw [9] (fun i wr => ∃ k : Nat, k ≤ N ∧ i = .int .i64 (k : Int) ∧ Hid (∃ T, Good T (b + k) ∧ DoI w p q ⟨kind, nm, nt, nn, ad, ln, cp⟩ l Fp Gp wr T T)) (fun i _ => N - (intOf i).toNat)
    case atStart => exact ⟨0, Nat.zero_le _, rfl, S, HG.out, H0.out⟩
    case round =>
      clear c0 c1 c2 c3 c4 c5 c6
      obtain ⟨k, hkN, rfl, H⟩ := hrel
      obtain ⟨T, hT, hD⟩ := H.out
      have HT4 : Hid (Good T (b + k)) := hT
      have HD : Hid (DoI w p q ⟨kind, nm, nt, nn, ad, ln, cp⟩ l Fp Gp wr T T) := hD
      obtain ⟨c0, c1, c2, c3, c4, c5, c6⟩ := hD.cells
      by_cases hlt : k < N
      · have i3 : (k : Int) < (N : Int) := by omega
        have hit := Tryd.strconv_Itoa (k : Int) (by omega) (by omega) wr (HT.out _ (by obtain ⟨F, G, hd⟩ := hD; exact hd.turn))
        have hsh := itoa_short k (by omega)
        obtain ⟨s, hs⟩ : ∃ s : ByteArray, s = ⟨(Lib.itoa (k : Int)).toArray⟩ := ⟨_, rfl⟩
        have hs20 : s.size ≤ 20 := by rw [hs]; simpa [ByteArray.size] using hsh
        rw [← hs] at hit
        obtain ⟨ns, hns⟩ : ∃ ns : ByteArray, ns = ⟨#[110]⟩ ++ s := ⟨_, rfl⟩
        have hn30 : ns.size ≤ 30 := by rw [hns, ByteArray.size_append, show (⟨#[110]⟩ : ByteArray).size = 1 from rfl]; omega
        have HP : Hid (∀ W, DoI w p q ⟨kind, nm, nt, nn, ad, ln, cp⟩ l Fp Gp W T T → Calls Tryd.prog 12 #[.pointer (some ⟨p, 0, none⟩), .string ns, .slice none 0 0] W fun e w' => ∃ u, e = .returned u ∧ (u = .int .i64 (T.app ns.data.toList []).2 ∧ DoI w p q ⟨kind, nm, nt, nn, ad, ln, cp⟩ l Fp Gp w' (T.app ns.data.toList []).1 T)) := fun W hW => hW.prog fun F hF =>
          append_any p T F W ns none 0 0 [] hF (by unfold maxLen; omega) ⟨rfl, fun h => by omega⟩ (Nat.le_refl _) (fun _ => ⟨rfl, rfl⟩) (fun h => by omega) (hT.fine.bs _) hT.fine.n (by have := hT.fine.wr; omega) (by omega)
        have HR : Hid (∀ W, DoI w p q ⟨kind, nm, nt, nn, ad, ln, cp⟩ l Fp Gp W (T.app ns.data.toList []).1 T → Calls Tryd.prog 22 #[.pointer (some ⟨q, 0, none⟩), .string ns, .slice none 0 0] W fun e w' => ∃ u, e = .returned u ∧ (u = .int .i64 (T.app ns.data.toList []).2 ∧ DoI w p q ⟨kind, nm, nt, nn, ad, ln, cp⟩ l Fp Gp w' (T.app ns.data.toList []).1 (T.app ns.data.toList []).1)) := fun W hW => hW.refr fun F hF =>
          rappend_any q T F W ns none 0 0 [] hF (by unfold maxLen; omega) ⟨rfl, fun h => by omega⟩ (Nat.le_refl _) (fun _ => ⟨rfl, rfl⟩) (fun h => by omega) (hT.fine.bs _) hT.fine.n (by have := hT.fine.wr; omega) hT.lm (by omega)
        have HG1 : Hid (Good (T.app ns.data.toList []).1 (b + (k + 1))) := hT.app1 ns
        generalize T.app ns.data.toList [] = T2 at *
        obtain ⟨T2, er⟩ := T2
        simp only at HP HR HG1
        clear hs hsh hT hD H
        go_upto_region 33 with (go_at_call 31; go_loud (refine hit.mono ?_; clear hit; rintro e w2 ⟨rfl, n2, os2, hw2⟩; have H2 : Hid (DoI w p q ⟨kind, nm, nt, nn, ad, ln, cp⟩ l Fp Gp w2 T T) := HD.out.below (by rw [hw2]; exact ⟨rfl, rfl, rfl, by simp [Sort.grow, World.drewN], fun j hj => by simp [Sort.grow, World.drewN, Array.getElem?_append_left hj]⟩); clear hw2))
        rw [← hns]
        clear hns
        refine wp_region_G (S := SB 1000 (fun _ => True) (fun W => W.cell? ⟨w.heap.size, 0, none⟩ = some (.pointer (some ⟨p, 0, none⟩)) ∧ W.cell? ⟨w.heap.size, 1, none⟩ = some (.pointer (some ⟨q, 0, none⟩)) ∧ W.cell? ⟨w.heap.size + 1, 0, none⟩ = some (.int .i64 kind) ∧ W.cell? ⟨w.heap.size + 1, 1, none⟩ = some (.string nm) ∧ W.cell? ⟨w.heap.size + 1, 2, none⟩ = some (.string nt) ∧ W.cell? ⟨w.heap.size + 1, 3, none⟩ = some (.int .i64 nn) ∧ W.cell? ⟨w.heap.size + 1, 4, none⟩ = some (.slice ad ln cp))) hmx ?_
        have hSB : SB 1000 (fun _ => True) (fun W : World => W.cell? ⟨w.heap.size, 0, none⟩ = some (.pointer (some ⟨p, 0, none⟩)) ∧ W.cell? ⟨w.heap.size, 1, none⟩ = some (.pointer (some ⟨q, 0, none⟩)) ∧ W.cell? ⟨w.heap.size + 1, 0, none⟩ = some (.int .i64 kind) ∧ W.cell? ⟨w.heap.size + 1, 1, none⟩ = some (.string nm) ∧ W.cell? ⟨w.heap.size + 1, 2, none⟩ = some (.string nt) ∧ W.cell? ⟨w.heap.size + 1, 3, none⟩ = some (.int .i64 nn) ∧ W.cell? ⟨w.heap.size + 1, 4, none⟩ = some (.slice ad ln cp)) (Array.replicate 9 false) w2.drew := SB.on trivial H2.out.drew.cells
        refine wpAnyG_takeP (i := 0) (v := ?_) rfl (by kernel_rfl) (by kernel_rfl) (by kernel_rfl) (fun _ _ _ h => h) rfl (Or.inl ⟨by rfl, ?_⟩) (by assumption) ?_
        rotate_left
        · intro Y hY; obtain ⟨y0, y1, y2, y3, y4, y5, y6⟩ := hY; go_simp; try with_reducible rfl
        intro hSB0
        try simp only [Act.put, List.getElem_toArray, List.getElem_cons_zero, List.setIfInBounds_toArray, List.set_cons_zero, List.set_cons_succ]
        refine wpAnyG_takeP (i := 1) (v := ?_) rfl (by kernel_rfl) (by kernel_rfl) (by kernel_rfl) (fun _ _ _ h => h) rfl (Or.inl ⟨by rfl, ?_⟩) (by assumption) ?_
        rotate_left
        · intro Y hY; obtain ⟨y0, y1, y2, y3, y4, y5, y6⟩ := hY; go_simp; try with_reducible rfl
        intro hSB1
        try simp only [Act.put, List.getElem_toArray, List.getElem_cons_zero, List.getElem_cons_succ, List.setIfInBounds_toArray, List.set_cons_zero, List.set_cons_succ]
        refine wpAnyG_takeP (i := 2) (v := ?_) rfl (by kernel_rfl) (by kernel_rfl) (by kernel_rfl) (fun _ _ _ h => h) rfl (Or.inl ⟨by rfl, ?_⟩) (by assumption) ?_
        rotate_left
        · intro Y hY; obtain ⟨y0, y1, y2, y3, y4, y5, y6⟩ := hY; go_simp; try with_reducible rfl
        intro hSB2
        try simp only [Act.put, List.getElem_toArray, List.getElem_cons_zero, List.getElem_cons_succ, List.setIfInBounds_toArray, List.set_cons_zero, List.set_cons_succ]
        refine wpAnyG_takeP (i := 4) (v := ?_) rfl (by kernel_rfl) (by kernel_rfl) (by kernel_rfl) (fun _ _ _ h => h) rfl (Or.inl ⟨by rfl, ?_⟩) (by assumption) ?_
        rotate_left
        · intro Y hY; obtain ⟨y0, y1, y2, y3, y4, y5, y6⟩ := hY; go_simp; try with_reducible rfl
        intro hSB4
        try simp only [Act.put, List.getElem_toArray, List.getElem_cons_zero, List.getElem_cons_succ, List.setIfInBounds_toArray, List.set_cons_zero, List.set_cons_succ]
        refine wpAnyG_takeP (i := 5) (v := ?_) rfl (by kernel_rfl) (by kernel_rfl) (by kernel_rfl) (fun _ _ _ h => h) rfl (Or.inl ⟨by rfl, ?_⟩) (by assumption) ?_
        rotate_left
        · intro Y hY; obtain ⟨y0, y1, y2, y3, y4, y5, y6⟩ := hY; go_simp; try with_reducible rfl
        intro hSB5
        try simp only [Act.put, List.getElem_toArray, List.getElem_cons_zero, List.getElem_cons_succ, List.setIfInBounds_toArray, List.set_cons_zero, List.set_cons_succ]
        refine wpAnyG_takeP (i := 6) (v := ?_) rfl (by kernel_rfl) (by kernel_rfl) (by kernel_rfl) (fun _ _ _ h => h) rfl (Or.inl ⟨by rfl, ?_⟩) (by assumption) ?_
        rotate_left
        · intro Y hY; obtain ⟨y0, y1, y2, y3, y4, y5, y6⟩ := hY; go_simp; try with_reducible rfl
        intro hSB6
        try simp only [Act.put, List.getElem_toArray, List.getElem_cons_zero, List.getElem_cons_succ, List.setIfInBounds_toArray, List.set_cons_zero, List.set_cons_succ]
        refine wpAnyG_one (i := 3) (by kernel_rfl) rfl (fun K hK => ?_)
        refine step_dappend _ (by rfl) _ _ _ _ _ (by rfl) _ _ (by rfl) (by rfl) (fun v W => v = .int .i64 er ∧ DoI w p q ⟨kind, nm, nt, nn, ad, ln, cp⟩ l Fp Gp W T2 T) (HP.out w2.drew H2.out.drew) ?_
        rintro v w3 ⟨rfl, h3⟩
        have H3 : Hid (DoI w p q ⟨kind, nm, nt, nn, ad, ln, cp⟩ l Fp Gp w3 T2 T) := h3
        clear h3
        refine hK.out _ _ (SB.on trivial H3.out.cells) (fun hSB3 => ?_)
        clear hK K
        try simp only [Act.put, List.getElem_toArray, List.getElem_cons_zero, List.getElem_cons_succ, List.setIfInBounds_toArray, List.set_cons_zero, List.set_cons_succ]
        refine wpAnyG_one (i := 7) (by kernel_rfl) rfl (fun K hK => ?_)
        refine step_rappend _ (by rfl) _ _ _ _ _ (by rfl) _ _ (by rfl) (by rfl) (fun v W => v = .int .i64 er ∧ DoI w p q ⟨kind, nm, nt, nn, ad, ln, cp⟩ l Fp Gp W T2 T2) (HR.out w3 H3.out) ?_
        rintro v w4 ⟨rfl, h4⟩
        have H4 : Hid (DoI w p q ⟨kind, nm, nt, nn, ad, ln, cp⟩ l Fp Gp w4 T2 T2) := h4
        clear h4
        refine hK.out _ _ (SB.on trivial H4.out.cells) (fun hSB7 => ?_)
        clear hK K
        try simp only [Act.put, List.getElem_toArray, List.getElem_cons_zero, List.getElem_cons_succ, List.setIfInBounds_toArray, List.set_cons_zero, List.set_cons_succ]
        refine wpAnyG_takeP (i := 8) (v := ?_) rfl (by kernel_rfl) (by kernel_rfl) (by kernel_rfl) (fun _ _ _ h => h) rfl (Or.inl ⟨by rfl, ?_⟩) (by assumption) ?_
        rotate_left
        · intro Y hY; obtain ⟨y0, y1, y2, y3, y4, y5, y6⟩ := hY; go_simp; try with_reducible rfl
        intro hSB8
        try simp only [Act.put, List.getElem_toArray, List.getElem_cons_zero, List.getElem_cons_succ, List.setIfInBounds_toArray, List.set_cons_zero, List.set_cons_succ]
        try simp only [bne_self_eq_false]
        refine wpAnyG_done (by kernel_rfl) ?_ _
        clear hSB hSB0 hSB1 hSB2 hSB3 hSB4 hSB5 hSB6 hSB7 hSB8
        have HN : Hid (∃ T, Good T (b + (k + 1)) ∧ DoI w p q ⟨kind, nm, nt, nn, ad, ln, cp⟩ l Fp Gp w4 T T) := ⟨T2, HG1.out, H4.out⟩
        clear H2 H3 H4 HP HR HG1
        go_wp2
        exact ⟨⟨k + 1, by omega, by simp, HN⟩, by simp [intOf]; omega⟩
      · have i3 : ¬ (k : Int) < (N : Int) := by omega
        have HG5 : Hid (Good T (b + 4194305)) := hT.more (by omega)
        clear hT hD H
        go_wp2_with (go_at_call 18; go_loud (refine (HD.out.file HG5.out nm HI.out).mono ?_; rintro e w9 ⟨_, rfl, rfl, h9⟩; have H9 : Hid (DoOut w w9 p q (b + 4194305) Fp Gp) := DoI.out h9 HG5.out; clear h9))
        exact bodyPost_ret (v := .bool true) (by simp [results, Tryd.results11, go_sem]) rfl ⟨rfl, H9.out⟩

end Go.Proofs.YtcbmofapnjdmgaaDoor
