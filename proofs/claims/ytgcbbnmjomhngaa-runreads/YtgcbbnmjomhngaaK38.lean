import Derived.Test.YtgcbbnmjomhngaaK22
import Derived.Test.YtgcbbnmjomhngaaK37
import Derived.Test.YtgcbbnmjomhngaaK34
import Derived.Test.YtgcbbnmjomhngaaK35
/- The walk of RunReads. -/
namespace Go.Proofs.Ytgcbbnmjomhngaa
open Go.RowKit Go.Shelf Go.Maps Go.Lib

attribute [local go_sem] Oper.semAt_some

set_option maxRecDepth 100000 in
theorem run_seq_nilV (W : World) (f : Nat) (p : Value) : (binOp .eql 37 (.func (.func f) #[] #[p]) .nilFunc).run Try.prog W = .ok (.bool false) W := by
  rfl
theorem irow_cell {w : World} {B n c k x : Nat} {ad : Option Addr} {xs : List Nat} (h : w.ownsRow B 32 1 (.slice ad n c) n (xs.map idV)) (hx : xs[k]? = some x) : ∃ g, ad = some ⟨g, 0, none⟩ ∧ w.cell? ⟨g, k, none⟩ = some (.int .u64 (x : Int)) := by
  have hl := h.1
  rw [List.length_map] at hl
  have hk := (List.getElem?_eq_some_iff.1 hx).1
  rcases h.2 with ⟨_, h0⟩ | ⟨g, cap, cur, e, _⟩
  · omega
  · cases e
    refine ⟨g, rfl, ?_⟩
    have h1 := h.cells (g := g) rfl k (.int .u64 (x : Int)) (by rw [List.getElem?_map, hx]; rfl)
    rw [Addr.add_lit] at h1
    simpa using h1
theorem irow_below {w w' : World} {B n : Nat} {v : Value} {xs : List Value} (h : w.ownsRow B 32 1 v n xs) (hB : Below w.heap.size w w') : w'.ownsRow B 32 1 v n xs :=
  irow_moved h fun q hq => hB.block q (irow_block h q hq).2.1
theorem below_app {B : Nat} {wr w1 w2 : World} {v : Value} {n : Nat} {xs : List Value} (h1 : Below B wr w1) (hs : B ≤ w1.heap.size) (h : w1.ownsRow B 32 1 v n xs) (hg : w1.grownBy w2 v.ownBlock) : Below B wr w2 :=
  h1.grown hg hs (fun z hz => (irow_block h z hz).1)
theorem check_ok {b : List UInt8} {l : List Pr} {k er : Int} (h : (pairsR b = none ∧ k = 0 ∧ er = 8) ∨ ∃ l, pairsR b = some l ∧ k = (l.length : Int) ∧ er = 0) (hl : pairsR b = some l) : k = (l.length : Int) ∧ er = 0 := by
  rcases h with ⟨h, _⟩ | ⟨m, h, h2⟩
  · rw [hl] at h; cases h
  · rw [hl] at h; cases h; exact h2
theorem check_no {b : List UInt8} {k er : Int} (h : (pairsR b = none ∧ k = 0 ∧ er = 8) ∨ ∃ l, pairsR b = some l ∧ k = (l.length : Int) ∧ er = 0) (hl : pairsR b = none) : k = 0 ∧ er = 8 := by
  rcases h with ⟨_, h⟩ | ⟨m, h, h2⟩
  · exact h
  · rw [hl] at h; cases h

set_option maxRecDepth 100000 in
set_option maxHeartbeats 8000000 in
theorem runReads_walk (w : World) (a : Option Addr) (n c f t : Nat) (b : List UInt8) (hb : Bytes w a n b) (hnil : a = none → n = 0) (hcap : n ≤ c) :
    Calls Try.prog 4 #[.slice a n c, .int .u64 (f : Int), .int .u64 (t : Int)] w fun e w' => e = .returned (.bool true) ∧ Below w.heap.size w w' := by
  have hmx : Try.prog.follows .mixedOrders = true := by kernel_rfl
  have HW : Hid (∀ W, Calls Try.prog 8 #[] W fun e w' => e = .returned (.bool true) ∧ Below W.heap.size W w') := vwakes_any
  by_cases hn : n ≤ 5000
  · have i1 : ¬ (5000 : Int) < (n : Int) := by omega
    have HB : Hid (Bytes w a n b ∧ (a = none → n = 0)) := ⟨hb, hnil⟩
    have hnil2 := HB.out.2
    have hnf := fun W p => run_seq_nilV W 33 p
    clear hb hnil
    go_enter Try.func4, Try.ntmps4
    go_upto_region 9 with first
      | (go_at_call 8; refine (HW.out _).mono ?_; rintro e w1 ⟨rfl, hB1⟩; have H1 : Hid (Below w.heap.size w w1) := hB1; clear hB1)
      | (go_at_call 15; refine (each_any w1 a n c b (vbytes_below HB.out.1 H1.out) HB.out.2 hcap (by omega)).mono ?_; rintro e w2 ⟨Bx, G, v2, rfl, _, _, _, hB2⟩; have H2 : Hid (Below w.heap.size w w2) := H1.out.trans (hB2.mono H1.out.size); clear hB2)
      | (go_at_call 16; refine (rread_any w2 a n c b (vbytes_below HB.out.1 H2.out) HB.out.2 hcap (by omega)).mono ?_; rintro e w3 ⟨v3, ok, rfl, hE, hB3⟩; have H3 : Hid (ReadE b v3 ok w3 ∧ Below w.heap.size w w3) := ⟨hE, H2.out.trans (hB3.mono H2.out.size)⟩; clear hE hB3)
      | (go_at_call 17; refine (vcheck_any w3 a n c b (vbytes_below HB.out.1 H3.out.2) HB.out.2 hcap (by omega)).mono ?_; rintro e w4 ⟨kc, er, rfl, hk4, hB4⟩; have H4 : Hid (((pairsR b = none ∧ kc = 0 ∧ er = 8) ∨ ∃ l, pairsR b = some l ∧ kc = (l.length : Int) ∧ er = 0) ∧ Below w3.heap.size w3 w4 ∧ Below w.heap.size w w4) := ⟨hk4, hB4, H3.out.2.trans (hB4.mono H3.out.2.size)⟩; clear hk4 hB4)
      | (go_at_call 18; refine (find_any w4 a n c f b (vbytes_below HB.out.1 H4.out.2.2) HB.out.2 hcap (by omega)).mono ?_; rintro e w5 ⟨rfl, hB5⟩; have H5 : Hid (Below w3.heap.size w3 w5 ∧ Below w.heap.size w w5) := ⟨H4.out.2.1.trans (hB5.mono H4.out.2.1.size), H4.out.2.2.trans (hB5.mono H4.out.2.2.size)⟩; clear hB5)
    obtain ⟨ad, m, c2, L, rfl, hPV, hm, hcase⟩ := H3.out.1
    have H6 : Hid (PrV w5 ad m c2 L ∧ Below w.heap.size w w5 ∧ Bytes w5 a n b ∧ m ≤ 65536 ∧ L.length = m) := ⟨⟨hPV.prs.kept H5.out.1, hPV.nil, hPV.cap⟩, H5.out.2, vbytes_below HB.out.1 H5.out.2, hm, hPV.prs.1⟩
    rcases hcase with ⟨rfl, hsm⟩ | ⟨rfl, hno⟩
    · obtain ⟨rfl, rfl⟩ := check_ok H4.out.1 hsm
      have hLm := H6.out.2.2.2.2
      have HL : Hid (pairsR b = some L ∧ eachL b = L) := ⟨hsm, by unfold eachL; rw [hsm]; rfl⟩
      rw [hLm]
      clear hPV hsm H3 H4 H5 HB hLm
      obtain ⟨i0, hii, hzz0, hzz1, hzz2⟩ := info_parts infoIdV
      obtain ⟨fx, fe, hfx⟩ : ∃ fx fe, findR b f = (fx, fe) := ⟨_, _, rfl⟩
      have HFx : Hid (findR b f = (fx, fe)) := hfx
      rw [hfx]
      simp only
      clear hfx
      go_wp2
      go_loopw [13, 50] (fun v i wr => ∃ k : Nat, k ≤ m ∧ i = .int .i64 (k : Int) ∧ Hid (wr.ownsRow w5.heap.size 32 1 v (srcL (L.take k) t).length ((srcL (L.take k) t).map idV) ∧ Below w5.heap.size w5 wr)) (fun _ i _ => m - (intOf i).toNat)
      case atStart => exact ⟨0, Nat.zero_le _, rfl, World.ownsRow_nil _ _ _ _, Below.refl _ _⟩
      case round =>
        obtain ⟨k, hk, rfl, H⟩ := hrel
        by_cases hlt : k < m
        · obtain ⟨⟨x, y⟩, hx⟩ : ∃ x, L[k]? = some x := ⟨_, List.getElem?_eq_getElem (by rw [H6.out.2.2.2.2]; exact hlt)⟩
          have hp5 := H6.out.1.prs.kept H.out.2
          obtain ⟨b1, o1, rfl, hc1⟩ := hp5.2 (by omega)
          obtain ⟨t1, t2⟩ := hc1 k _ hx
          have i2 : (k : Int) < (m : Int) := by omega
          have i3 : ¬ m ≤ k := by omega
          have hsl := srcL_len (L.take k) t
          rw [List.length_take] at hsl
          have bx := (BoxV.new wr (x : Int) (y : Int)).cell
          obtain ⟨bx0, bx1⟩ := bx
          have hm65 := H6.out.2.2.2.1
          have hsz := H.out.2.size
          have HBx : Hid (Below w5.heap.size w5 (wr.alloc (.cells #[.int .u64 (x : Int), .int .u64 (y : Int)] 47))) := H.out.2.alloc hsz _
          obtain ⟨va, vc, hv, _⟩ := irow_shape H.out.1
          subst hv
          have hrow1 := H.out.1.alloc (.cells #[.int .u64 (x : Int), .int .u64 (y : Int)] 47)
          have HR1 : Hid ((wr.alloc (.cells #[.int .u64 (x : Int), .int .u64 (y : Int)] 47)).ownsRow w5.heap.size 32 1 (.slice va (srcL (L.take k) t).length vc) (srcL (L.take k) t).length ((srcL (L.take k) t).map idV)) := hrow1
          simp only at t1 t2
          by_cases hyt : y = t
          · have e1 : ((y : Int) == (t : Int)) = true := by simp [hyt]
            have HE : Hid (srcL (L.take (k + 1)) t = srcL (L.take k) t ++ [x]) := (by rw [take_getV hx, srcL_app]; simp [srcL, hyt] : srcL (L.take (k + 1)) t = srcL (L.take k) t ++ [x])
            have hrow2 := hrow1.alloc (.cells #[.int .u64 (x : Int)] 32)
            have HSZ : Hid (w5.heap.size ≤ ((wr.alloc (.cells #[.int .u64 (x : Int), .int .u64 (y : Int)] 47)).alloc (.cells #[.int .u64 (x : Int)] 32)).heap.size) := by
              show _ ≤ _
              simp
              omega
            clear hx hc1 hp5 H hrow1 hyt
            generalize hPL : (srcL (L.take k) t).length = PL at *
            have HPL : Hid ((srcL (L.take k) t).length = PL) := hPL
            clear hPL
            go_wp2_with (at_builtin; refine wpList_append_own_at _ rfl _ _ 45 rfl w5.heap.size 32 i0 _ 1 8 Try.underlying45 hii hzz0 hzz1 hzz2 rfl (by decide) _ PL _ rfl hrow2 ⟨_, 0, none⟩ 1 1 [.int .u64 (x : Int)] rfl (by exact rfl) (by simpa using cell_one_new (wr.alloc (.cells #[.int .u64 (x : Int), .int .u64 (y : Int)] 47)) (.int .u64 (x : Int)) 32) (by simp [Value.oneCell']) (by unfold maxLen; omega) (by omega) HSZ.out ?_; intro v6 w6 hown6 hgr6 _ _)
            have H7 : Hid (w6.ownsRow w5.heap.size 32 1 v6 (srcL (L.take (k + 1)) t).length ((srcL (L.take (k + 1)) t).map idV) ∧ Below w5.heap.size w5 w6) := by
              refine ⟨?_, below_app (HBx.out.alloc (by simp; omega) _) HSZ.out hrow2 hgr6⟩
              rw [HE.out, List.length_append, HPL.out, List.map_append]
              exact hown6
            clear hown6 hgr6 hrow2 HSZ HBx HR1 t1 t2 bx0 bx1
            go_roundw
            case rel => exact ⟨k + 1, by omega, by go_num, H7⟩
            case measure => simp [intOf]; omega
          · have e1 : ((y : Int) == (t : Int)) = false := by simp; omega
            have HE : Hid (srcL (L.take (k + 1)) t = srcL (L.take k) t) := (by rw [take_getV hx, srcL_app]; simp [srcL, hyt] : srcL (L.take (k + 1)) t = srcL (L.take k) t)
            have H7 : Hid ((wr.alloc (.cells #[.int .u64 (x : Int), .int .u64 (y : Int)] 47)).ownsRow w5.heap.size 32 1 (.slice va (srcL (L.take k) t).length vc) (srcL (L.take (k + 1)) t).length ((srcL (L.take (k + 1)) t).map idV) ∧ Below w5.heap.size w5 (wr.alloc (.cells #[.int .u64 (x : Int), .int .u64 (y : Int)] 47))) := ⟨by rw [HE.out]; exact HR1.out, HBx.out⟩
            clear hx hc1 hp5 H hrow1 hyt HR1 HBx HE
            go_wp2
            go_roundw
            case rel => exact ⟨k + 1, by omega, by go_num, H7⟩
            case measure => simp [intOf]; omega
        · obtain rfl : k = m := by omega
          obtain ⟨wo, hwo⟩ : ∃ wo, wo = wr := ⟨_, rfl⟩
          subst hwo
          have hLk : L.take k = L := List.take_of_length_le (by rw [H6.out.2.2.2.2]; exact Nat.le_refl _)
          have hH := H.out
          rw [hLk] at hH
          obtain ⟨wa, wc, hv, _⟩ := irow_shape hH.1
          subst hv
          have H8 : Hid (wo.ownsRow w5.heap.size 32 1 (.slice wa (srcL L t).length wc) (srcL L t).length ((srcL L t).map idV) ∧ Below w5.heap.size w5 wo ∧ Below w.heap.size w wo ∧ Bytes wo a n b ∧ PrV wo ad k c2 L) := ⟨hH.1, hH.2, H6.out.2.1.trans (hH.2.mono H6.out.2.1.size), vbytes_below H6.out.2.2.1 hH.2, ⟨H6.out.1.prs.kept hH.2, H6.out.1.nil, H6.out.1.cap⟩⟩
          have hsl := srcL_len L t
          have HM : Hid (k ≤ 65536 ∧ L.length = k) := ⟨H6.out.2.2.2.1, H6.out.2.2.2.2⟩
          have hsr := sources_any wo a n c t b H8.out.2.2.2.1 hnil2 hcap (by omega)
          rw [HL.out.2] at hsr
          rw [HM.out.2] at hsl
          have hm65 := HM.out.1
          clear H hH hLk H6
          generalize hSL : srcL L t = SL at *
          obtain ⟨N, hN⟩ : ∃ N, N = SL.length := ⟨_, rfl⟩
          have HN : Hid (SL.length = N) := hN.symm
          rw [← hN] at H8 hsr hsl ⊢
          clear hN hSL
          go_wp2_with first
            | (go_at_call 19; refine hsr.mono ?_; clear hsr; rintro e w8 ⟨v8, rfl, ho8, hB8⟩; obtain ⟨ga, gc, hv8, _⟩ := irow_shape ho8; subst hv8; have H9 : Hid (w8.ownsRow wo.heap.size 32 1 (.slice ga N gc) N (SL.map idV) ∧ Below wo.heap.size wo w8 ∧ w8.ownsRow w5.heap.size 32 1 (.slice wa N wc) N (SL.map idV)) := ⟨ho8, hB8, irow_below H8.out.1 hB8⟩; clear ho8 hB8)
            | (go_at_call 8; refine (HW.out _).mono ?_; rintro e w9 ⟨rfl, hB9⟩; have H10 : Hid (w9.ownsRow wo.heap.size 32 1 (.slice ga N gc) N (SL.map idV) ∧ Below wo.heap.size wo w9 ∧ w9.ownsRow w5.heap.size 32 1 (.slice wa N wc) N (SL.map idV)) := ⟨irow_below H9.out.1 hB9, H9.out.2.1.trans (hB9.mono H9.out.2.1.size), irow_below H9.out.2.2 hB9⟩; clear hB9)
          clear H9
          go_loopw [81] (fun i wx => ∃ q : Nat, q ≤ N ∧ i = .int .i64 (q : Int) ∧ Hid (Below w9.heap.size w9 wx)) (fun i _ => N - (intOf i).toNat)
          case atStart => exact ⟨0, Nat.zero_le _, rfl, Below.refl _ _⟩
          case round =>
            obtain ⟨q, hq, rfl, H⟩ := hrel
            by_cases hlt2 : q < N
            · obtain ⟨x, hx⟩ : ∃ x, SL[q]? = some x := ⟨_, List.getElem?_eq_getElem (by rw [HN.out]; exact hlt2)⟩
              obtain ⟨g1, rfl, t1⟩ := irow_cell (irow_below H10.out.1 H.out) hx
              obtain ⟨g2, rfl, t2⟩ := irow_cell (irow_below H10.out.2.2 H.out) hx
              have i5 : (q : Int) < (N : Int) := by omega
              have i6 : ¬ N ≤ q := by omega
              have HBd : Hid (Below w9.heap.size w9 wr.drew) := ⟨H.out.os, H.out.tape, H.out.output, H.out.size, H.out.block⟩
              clear hx H
              go_upto_region 21 with fail
              refine wp_region_G (S := SB 1000 (fun _ => True) (fun Y => Y.cell? ⟨g1, q, none⟩ = some (.int .u64 (x : Int)) ∧ Y.cell? ⟨g2, q, none⟩ = some (.int .u64 (x : Int)))) hmx ?_
              have hSB : SB 1000 (fun _ => True) (fun Y => Y.cell? ⟨g1, q, none⟩ = some (.int .u64 (x : Int)) ∧ Y.cell? ⟨g2, q, none⟩ = some (.int .u64 (x : Int))) (Array.replicate 9 false) wr.drew := SB.on trivial ⟨t1, t2⟩
              refine wpAnyG_takeP (i := 0) (v := ?_) rfl (by kernel_rfl) (by kernel_rfl) (by kernel_rfl) (fun _ _ _ h => h) rfl (Or.inl ⟨by rfl, ?_⟩) (by assumption) ?_
              rotate_left
              · intro Y _; go_simp; try with_reducible rfl
              intro hSB0
              try simp only [Act.put, List.getElem_toArray, List.getElem_cons_zero, List.setIfInBounds_toArray, List.set_cons_zero, List.set_cons_succ]
              refine wpAnyG_takeP (i := 1) (v := ?_) rfl (by kernel_rfl) (by kernel_rfl) (by kernel_rfl) (fun _ _ _ h => h) rfl (Or.inl ⟨by rfl, ?_⟩) (by assumption) ?_
              rotate_left
              · intro Y _; go_simp; try with_reducible rfl
              intro hSB1
              try simp only [Act.put, List.getElem_toArray, List.getElem_cons_zero, List.getElem_cons_succ, List.setIfInBounds_toArray, List.set_cons_zero, List.set_cons_succ]
              refine wpAnyG_takeP (i := 2) (v := ?_) rfl (by kernel_rfl) (by kernel_rfl) (by kernel_rfl) (fun _ _ _ h => h) rfl (Or.inl ⟨by rfl, ?_⟩) (by assumption) ?_
              rotate_left
              · intro Y _; go_simp; try with_reducible rfl
              intro hSB2
              try simp only [Act.put, List.getElem_toArray, List.getElem_cons_zero, List.getElem_cons_succ, List.setIfInBounds_toArray, List.set_cons_zero, List.set_cons_succ]
              refine wpAnyG_takeP (i := 3) (v := ?_) rfl (by kernel_rfl) (by kernel_rfl) (by kernel_rfl) (fun _ _ _ h => h) rfl (Or.inl ⟨by rfl, ?_⟩) (by assumption) ?_
              rotate_left
              · intro Y hY; obtain ⟨y1, y2⟩ := hY; go_simp; try with_reducible rfl
              intro hSB3
              try simp only [Act.put, List.getElem_toArray, List.getElem_cons_zero, List.getElem_cons_succ, List.setIfInBounds_toArray, List.set_cons_zero, List.set_cons_succ]
              refine wpAnyG_takeP (i := 4) (v := ?_) rfl (by kernel_rfl) (by kernel_rfl) (by kernel_rfl) (fun _ _ _ h => h) rfl (Or.inl ⟨by rfl, ?_⟩) (by assumption) ?_
              rotate_left
              · intro Y _; go_simp; try with_reducible rfl
              intro hSB4
              try simp only [Act.put, List.getElem_toArray, List.getElem_cons_zero, List.getElem_cons_succ, List.setIfInBounds_toArray, List.set_cons_zero, List.set_cons_succ]
              refine wpAnyG_takeP (i := 5) (v := ?_) rfl (by kernel_rfl) (by kernel_rfl) (by kernel_rfl) (fun _ _ _ h => h) rfl (Or.inl ⟨by rfl, ?_⟩) (by assumption) ?_
              rotate_left
              · intro Y _; go_simp; try with_reducible rfl
              intro hSB5
              try simp only [Act.put, List.getElem_toArray, List.getElem_cons_zero, List.getElem_cons_succ, List.setIfInBounds_toArray, List.set_cons_zero, List.set_cons_succ]
              refine wpAnyG_takeP (i := 6) (v := ?_) rfl (by kernel_rfl) (by kernel_rfl) (by kernel_rfl) (fun _ _ _ h => h) rfl (Or.inl ⟨by rfl, ?_⟩) (by assumption) ?_
              rotate_left
              · intro Y _; go_simp; try with_reducible rfl
              intro hSB6
              try simp only [Act.put, List.getElem_toArray, List.getElem_cons_zero, List.getElem_cons_succ, List.setIfInBounds_toArray, List.set_cons_zero, List.set_cons_succ]
              refine wpAnyG_takeP (i := 7) (v := ?_) rfl (by kernel_rfl) (by kernel_rfl) (by kernel_rfl) (fun _ _ _ h => h) rfl (Or.inl ⟨by rfl, ?_⟩) (by assumption) ?_
              rotate_left
              · intro Y hY; obtain ⟨y1, y2⟩ := hY; go_simp; try with_reducible rfl
              intro hSB7
              try simp only [Act.put, List.getElem_toArray, List.getElem_cons_zero, List.getElem_cons_succ, List.setIfInBounds_toArray, List.set_cons_zero, List.set_cons_succ]
              refine wpAnyG_takeP (i := 8) (v := ?_) rfl (by kernel_rfl) (by kernel_rfl) (by kernel_rfl) (fun _ _ _ h => h) rfl (Or.inl ⟨by rfl, ?_⟩) (by assumption) ?_
              rotate_left
              · intro Y _; go_simp; try with_reducible rfl
              intro hSB8
              try simp only [Act.put, List.getElem_toArray, List.getElem_cons_zero, List.getElem_cons_succ, List.setIfInBounds_toArray, List.set_cons_zero, List.set_cons_succ]
              refine wpAnyG_done (by kernel_rfl) ?_ _
              clear hSB hSB0 hSB1 hSB2 hSB3 hSB4 hSB5 hSB6 hSB7 hSB8
              try simp only [bne_self_eq_false]
              go_wp2
              go_roundw
              case rel => exact ⟨q + 1, by omega, by go_num, HBd.out⟩
              case measure => simp [intOf]; omega
            · obtain rfl : q = N := by omega
              have H11 : Hid (Below w.heap.size w wr ∧ Bytes wr a n b ∧ PrV wr ad k c2 L) := by
                have hB : Below wo.heap.size wo wr := H10.out.2.1.trans (H.out.mono H10.out.2.1.size)
                exact ⟨H8.out.2.2.1.trans (hB.mono H8.out.2.2.1.size), vbytes_below H8.out.2.2.2.1 hB, ⟨H8.out.2.2.2.2.prs.kept hB, H8.out.2.2.2.2.nil, H8.out.2.2.2.2.cap⟩⟩
              have hfd := rfind_any wr ad k c2 f L H11.out.2.2.prs (by omega)
              have HTd : Hid (Calls Try.prog 14 #[.slice a n c, .slice ad k c2] wr fun e w' => e = .returned (.bool true) ∧ Below wr.heap.size wr w') := by
                have := told_any wr a n c b H11.out.2.1 hnil2 hcap (by omega) ad k c2 L H11.out.2.2.prs (by omega)
                rw [HL.out.2, decide_eq_true rfl] at this
                exact this
              have HBw : Hid (Below w.heap.size w wr) := H11.out.1
              cases hlk : lookP L f with
              | none =>
                rw [idxF_none L f 0 hlk] at hfd
                have hfe := HFx.out
                rw [findR_none HL.out.1 hlk] at hfe
                cases hfe
                clear hlk H8 H10 H11 H
                go_wp2_with first
                  | (go_at_call 12; refine hfd.mono ?_; clear hfd; rintro e wy ⟨rfl, hwy⟩; subst hwy)
                  | (go_at_call 14; refine HTd.out.mono ?_; rintro e wz ⟨rfl, hBz⟩)
                go_ret
                exact ⟨rfl, HBw.out.trans (hBz.mono HBw.out.size)⟩
              | some z =>
                obtain ⟨j, hj, hjz⟩ := idxF_some L f 0 z hlk
                rw [hj, Nat.zero_add] at hfd
                have hfe := HFx.out
                rw [findR_some HL.out.1 hlk] at hfe
                cases hfe
                have hjk : j < k := by have := (List.getElem?_eq_some_iff.1 hjz).1; have := HM.out.2; omega
                obtain ⟨b1, o1, rfl, hc1⟩ := H11.out.2.2.prs.2 (by omega)
                have t2 := (hc1 j _ hjz).2
                simp only at t2
                have i7 : ¬ (j : Int) < 0 := by omega
                have i8 : (0 : Int) ≤ (j : Int) := by omega
                have i9 : (j : Int) < (k : Int) := by omega
                have i10 : ¬ k ≤ j := by omega
                clear hlk H8 H10 H11 H hj hjz hc1
                go_wp2_with first
                  | (go_at_call 12; refine hfd.mono ?_; clear hfd; rintro e wy ⟨rfl, hwy⟩; subst hwy)
                  | (go_at_call 14; refine HTd.out.mono ?_; rintro e wz ⟨rfl, hBz⟩)
                go_ret
                exact ⟨rfl, HBw.out.trans (hBz.mono HBw.out.size)⟩
    · obtain ⟨rfl, rfl⟩ := check_no H4.out.1 hno
      have hfn : findR b f = (0, 8) := findR_bad f hno
      have HL : Hid (eachL b = []) := (by unfold eachL; rw [hno]; rfl : eachL b = [])
      rw [hfn]
      simp only
      clear hPV hno H3 H4 H5 HB hfn
      go_wp2
      go_loopw [13, 50] (fun v i wr => ∃ k : Nat, k ≤ m ∧ i = .int .i64 (k : Int) ∧ v = .slice none 0 0 ∧ Hid (Below w5.heap.size w5 wr)) (fun _ i _ => m - (intOf i).toNat)
      case atStart => exact ⟨0, Nat.zero_le _, rfl, rfl, Below.refl _ _⟩
      case round =>
        obtain ⟨k, hk, rfl, rfl, H⟩ := hrel
        by_cases hlt : k < m
        · obtain ⟨⟨x, y⟩, hx⟩ : ∃ x, L[k]? = some x := ⟨_, List.getElem?_eq_getElem (by rw [H6.out.2.2.2.2]; exact hlt)⟩
          have hp5 := H6.out.1.prs.kept H.out
          obtain ⟨b1, o1, rfl, hc1⟩ := hp5.2 (by omega)
          obtain ⟨t1, t2⟩ := hc1 k _ hx
          have i2 : (k : Int) < (m : Int) := by omega
          have i3 : ¬ m ≤ k := by omega
          have H7 : Hid (Below w5.heap.size w5 (wr.alloc (.cells #[.int .u64 (x : Int), .int .u64 (y : Int)] 47))) := H.out.alloc H.out.size _
          simp only at t1 t2
          clear hx hc1 hp5 H
          go_wp2
          go_roundw
          case rel => exact ⟨k + 1, by omega, by go_num, rfl, H7⟩
          case measure => simp [intOf]; omega
        · obtain rfl : k = m := by omega
          obtain ⟨wo, hwo⟩ : ∃ wo, wo = wr := ⟨_, rfl⟩
          subst hwo
          have H8 : Hid (Below w.heap.size w wo ∧ Bytes wo a n b) := ⟨H6.out.2.1.trans (H.out.mono H6.out.2.1.size), vbytes_below H6.out.2.2.1 H.out⟩
          have hsr := sources_any wo a n c t b H8.out.2 hnil2 hcap (by omega)
          rw [HL.out] at hsr
          have hs0 : srcL [] t = [] := rfl
          rw [hs0] at hsr
          simp only [List.length_nil, List.map_nil] at hsr
          clear H H6 hs0
          go_wp2_with first
            | (go_at_call 19; refine hsr.mono ?_; clear hsr; rintro e w8 ⟨v8, rfl, ho8, hB8⟩; obtain ⟨ga, gc, hv8, _⟩ := irow_shape ho8; subst hv8; have H9 : Hid (Below w.heap.size w w8 ∧ Bytes w8 a n b) := ⟨H8.out.1.trans (hB8.mono H8.out.1.size), vbytes_below H8.out.2 hB8⟩; clear ho8 hB8)
            | (go_at_call 8; refine (HW.out _).mono ?_; rintro e w9 ⟨rfl, hB9⟩; have H10 : Hid (Below w.heap.size w w9 ∧ Bytes w9 a n b) := ⟨H9.out.1.trans (hB9.mono H9.out.1.size), vbytes_below H9.out.2 hB9⟩; clear hB9)
          clear H8 H9
          go_loopw [81] (fun i wx => i = .int .i64 0 ∧ Hid (wx = w9)) (fun i _ => 1)
          case atStart => exact ⟨rfl, rfl⟩
          case round =>
            obtain ⟨rfl, H⟩ := hrel
            obtain rfl := H.out
            have HTd : Hid (Calls Try.prog 14 #[.slice a n c, .slice none 0 0] wr fun e w' => e = .returned (.bool true) ∧ Below wr.heap.size wr w') := by
              have := told_any wr a n c b H10.out.2 hnil2 hcap (by omega) none 0 0 [] (prs_nil _ _) (by omega)
              rw [HL.out, decide_eq_true rfl] at this
              exact this
            have HBw : Hid (Below w.heap.size w wr) := H10.out.1
            clear H10 H
            go_wp2_with (go_at_call 14; refine HTd.out.mono ?_; rintro e wz ⟨rfl, hBz⟩)
            go_ret
            exact ⟨rfl, HBw.out.trans (hBz.mono HBw.out.size)⟩
  · have i1 : (5000 : Int) < (n : Int) := by omega
    clear hb hnil hn
    go_enter Try.func4, Try.ntmps4
    go_wp2_with (go_at_call 8; refine (HW.out _).mono ?_; rintro e w1 ⟨rfl, hB1⟩)
    go_ret
    exact ⟨rfl, hB1⟩
theorem runReads_law (w : World) (a : Option Addr) (n c : Nat) (b : List UInt8) (f t : Int) (h : ByIn w a n c b) (hf0 : 0 ≤ f) (_ : f ≤ 18446744073709551615) (ht0 : 0 ≤ t) (_ : t ≤ 18446744073709551615) :
    Calls Try.prog 4 #[.slice a n c, .int .u64 f, .int .u64 t] w fun e w' => e = .returned (.bool true) ∧ Below w.heap.size w w' := by
  obtain ⟨f, rfl⟩ : ∃ x : Nat, f = (x : Int) := ⟨f.toNat, by omega⟩
  obtain ⟨t, rfl⟩ : ∃ x : Nat, t = (x : Int) := ⟨t.toNat, by omega⟩
  exact runReads_walk w a n c f t b h.by_ (fun e => (h.nil e).1) h.cap
end Go.Proofs.Ytgcbbnmjomhngaa
