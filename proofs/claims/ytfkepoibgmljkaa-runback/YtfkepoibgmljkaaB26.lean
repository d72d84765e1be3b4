import Derived.Test.YtfkepoibgmljkaaB14
import Derived.Test.YtfkepoibgmljkaaB25
import Derived.Test.YtfkepoibgmljkaaB07
/- The walks of the document's Sorted and Bytes. -/
namespace Go.Proofs.Ytfkepoibgmljkaa
open Go.RowKit Go.Shelf Go.Maps

attribute [local go_sem] Oper.semAt_some

set_option maxRecDepth 100000 in
set_option maxHeartbeats 4000000 in
theorem rsortedB_any (w : World) (a : Option Addr) (n c : Nat) (l : List Pr) (h : Prs w a n l) (hn : n ≤ 100000) :
    Calls Try.prog 6 #[.slice a n c] w fun e w' => ∃ ad m c', e = .returned (.slice ad m c') ∧ ∃ l', PrQ w' ad m c' l' ∧ SortR l l' ∧ Below w.heap.size w w' := by
  go_enter Try.func6, Try.ntmps6
  go_wp2
  go_loopw [3, 4] (fun v i wr => ∃ (k m c' : Nat) (ad : Option Addr), k ≤ n ∧ m ≤ k ∧ i = .int .i64 (k : Int) ∧ v = .slice ad m c' ∧ Hid (∃ l', PrV wr ad m c' l' ∧ SortR (l.take k) l' ∧ Below w.heap.size w wr ∧ PairB wr ad)) (fun _ i _ => n - (intOf i).toNat)
  case atStart => exact ⟨0, 0, 0, none, Nat.zero_le _, Nat.le_refl _, rfl, rfl, [], ⟨prs_nil _ _, fun _ => ⟨rfl, rfl⟩, Nat.le_refl _⟩, by rw [List.take_zero]; exact SortR.start, Below.refl _ _, PairB.none _⟩
  case round =>
    obtain ⟨k, m, c', ad, hk, hmk, rfl, rfl, H⟩ := hrel
    by_cases hlt : k < n
    · obtain ⟨⟨x, y⟩, hx⟩ : ∃ x, l[k]? = some x := ⟨_, List.getElem?_eq_getElem (by rw [h.1]; exact hlt)⟩
      obtain ⟨l', hP, hS, hB, hPB⟩ := H.out
      obtain ⟨b1, o1, rfl, hc1⟩ := (h.kept hB).2 (by omega)
      obtain ⟨q1, q2⟩ := hc1 k _ hx
      have i2 : (k : Int) < (n : Int) := by omega
      have i3 : ¬ n ≤ k := by omega
      have hput := rputB_any wr ad m c' x y l' hP (by omega)
      have HT : Hid (l.take (k + 1) = l.take k ++ [(x, y)] ∧ SortR (l.take k) l' ∧ Below w.heap.size w wr ∧ PairB wr ad) := ⟨take_getV hx, hS, hB, hPB⟩
      have hml : l'.length = m := hP.prs.1
      have HN : Hid (l.length = n) := h.1
      simp only at q1 q2
      clear hc1 hx h H hP hS hB hPB
      go_wp2_with (go_at_call 16; refine hput.mono ?_; clear hput; rintro e w1 ⟨ad1, m1, c1, l1, rfl, hP1, hR1, hB1, hPB1⟩)
      have H1 : Hid (∃ l', PrV w1 ad1 m1 c1 l' ∧ SortR (l.take (k + 1)) l' ∧ Below w.heap.size w w1 ∧ PairB w1 ad1) := ⟨l1, hP1, by rw [HT.out.1]; exact HT.out.2.1.step hR1, HT.out.2.2.1.trans (hB1.mono HT.out.2.2.1.size), hPB1 HT.out.2.2.2⟩
      have hm1 : m1 ≤ k + 1 := by
        have h1 := putR_len hR1
        have h2 := hP1.prs.1
        omega
      clear hP1 hR1 hB1 hPB1
      go_roundw
      case rel => exact ⟨k + 1, m1, c1, ad1, by omega, hm1, by go_num, rfl, H1⟩
      case measure => simp [intOf]; omega
    · obtain rfl : k = n := by omega
      have HZ : Hid (∃ l', PrV wr ad m c' l' ∧ SortR l l' ∧ Below w.heap.size w wr ∧ PairB wr ad) := by
        have e := H.out
        rw [List.take_of_length_le (by rw [h.1]; exact Nat.le_refl _)] at e
        exact e
      go_wp2
      go_ret
      obtain ⟨l', z1, z2, z3, z4⟩ := HZ.out
      exact ⟨ad, m, c', rfl, l', ⟨z1, z4⟩, z2, z3⟩

theorem rsorted_any (w : World) (a : Option Addr) (n c : Nat) (l : List Pr) (h : Prs w a n l) (hn : n ≤ 100000) :
    Calls Try.prog 6 #[.slice a n c] w fun e w' => ∃ ad m c', e = .returned (.slice ad m c') ∧ ∃ l', PrV w' ad m c' l' ∧ SortR l l' ∧ Below w.heap.size w w' := by
  refine (rsortedB_any w a n c l h hn).mono ?_
  rintro e w' ⟨ad, m, c', he, l', h1, h2, h3⟩
  exact ⟨ad, m, c', he, l', h1.toPrV, h2, h3⟩
/-- bytes put together so far, in a row of the call's own -/
def OwnY (w wr : World) (v : Value) (L : List UInt8) : Prop := wr.ownsRow w.heap.size 5 1 v L.length (cellsOf L) ∧ Below w.heap.size w wr
theorem OwnY.below {w wr wx : World} {v : Value} {L : List UInt8} (h : OwnY w wr v L) (hB : Below wr.heap.size wr wx) : OwnY w wx v L :=
  ⟨h.1.kept (row := none) ⟨hB.os, hB.tape, hB.output, hB.size, fun k hk _ => hB.block k hk⟩ (by cases v.ownBlock <;> simp), h.2.trans (hB.mono h.2.size)⟩
theorem OwnY.app {w wr wx : World} {v v' : Value} {L M : List UInt8} {n m : Nat} (h : OwnY w wr v L) (hn : n = L.length) (hm : M.length = m) (ho : wx.ownsRow w.heap.size 5 1 v' (n + m) (cellsOf L ++ cellsOf M)) (hg : wr.grownBy wx v.ownBlock) : OwnY w wx v' (L ++ M) := by
  refine ⟨?_, h.2.grown hg h.2.size (fun k hk => (vrow_block h.1 k hk).1)⟩
  rw [List.length_append, cellsOf_append, hm, ← hn]
  exact ho
set_option maxRecDepth 100000 in
set_option maxHeartbeats 4000000 in
theorem rbytes_any (w : World) (a : Option Addr) (n c : Nat) (l : List Pr) (h : Prs w a n l) (hok : PrOk l) (hn : n ≤ 100000) :
    Calls Try.prog 8 #[.slice a n c] w fun e w' => ∃ ad cp, e = .returned (.slice ad (runB l).length cp) ∧ w'.ownsRow w.heap.size 5 1 (.slice ad (runB l).length cp) (runB l).length (cellsOf (runB l)) ∧ Below w.heap.size w w' := by
  have hu := refUint_any n w (by omega)
  have HS : Hid ((short n).length ≤ 10 ∧ headB l = short n ++ prBytes l) := ⟨short_len n, by unfold headB; rw [h.1]⟩
  go_enter Try.func8, Try.ntmps8
  go_wp2_with (go_at_call 17; refine hu.mono ?_; clear hu; rintro e w1 ⟨v1, rfl, ho1, hB1⟩)
  have H1 : Hid (OwnY w w1 v1 (short n ++ prBytes (l.take 0))) := by
    rw [List.take_zero]
    simp only [prBytes, List.append_nil]
    exact ⟨ho1, hB1⟩
  clear ho1 hB1
  go_loopw [3, 4] (fun v i wr => ∃ k : Nat, k ≤ n ∧ i = .int .i64 (k : Int) ∧ Hid (OwnY w wr v (short n ++ prBytes (l.take k)))) (fun _ i _ => n - (intOf i).toNat)
  case atStart => exact ⟨0, Nat.zero_le _, rfl, H1⟩
  case round =>
    clear H1
    obtain ⟨k, hk, rfl, H⟩ := hrel
    by_cases hlt : k < n
    · obtain ⟨⟨x, y⟩, hx⟩ : ∃ x, l[k]? = some x := ⟨_, List.getElem?_eq_getElem (by rw [h.1]; exact hlt)⟩
      obtain ⟨b1, o1, rfl, hc1⟩ := h.2 (by omega)
      obtain ⟨t1, t2⟩ := hc1 k _ hx
      have q1 := (H.out.2.cell (p := ⟨b1, o1 + k * 2, none⟩) (World.block_lt_of_cell? w _ t1)).trans t1
      have HQ : Hid (∀ W, Below w.heap.size w W → W.cell? ⟨b1, o1 + k * 2 + 1, none⟩ = some (.int .u64 (y : Int))) := fun W hW => (hW.cell (p := ⟨b1, o1 + k * 2 + 1, none⟩) (World.block_lt_of_cell? w _ t2)).trans t2
      have i2 : (k : Int) < (n : Int) := by omega
      have i3 : ¬ n ≤ k := by omega
      have hxy := hok _ (List.mem_of_getElem? hx)
      simp only at hxy q1
      have HX : Hid (x < 18446744073709551616 ∧ y < 18446744073709551616) := hxy
      have HE : Hid ((short n ++ prBytes (l.take k)).length ≤ 2000000 ∧ short n ++ prBytes (l.take (k + 1)) = short n ++ prBytes (l.take k) ++ wide x ++ wide y) := by
        refine ⟨?_, ?_⟩
        · rw [List.length_append, prBytes_len, List.length_take]
          have := HS.out.1
          omega
        · rw [take_getV hx, prBytes_app]
          simp only [prBytes, List.append_nil, List.append_assoc]
      clear hc1 t1 t2 hx h hxy
      generalize short n ++ prBytes (l.take k) = L at *
      obtain ⟨N, hN⟩ : ∃ N, N = L.length := ⟨_, rfl⟩
      have HN : Hid (N = L.length) := hN
      have hN2 : N ≤ 2000000 := by rw [hN]; exact HE.out.1
      clear hN
      go_wp2_with first
        | (at_builtin; refine vwpList_app _ w.heap.size H4.out.1.2.size rfl _ _ rfl v3 (N + 8) (cellsOf (L ++ wide x)) rfl (by have := H4.out.1.1; rw [List.length_append, vwide_len, ← HN.out] at this; exact this) (some ⟨w3.heap.size, 0, none⟩) 8 8 (wide y) rfl H4.out.2 (fun e => by cases e) (by omega) ?_; intro v5 w5 ho5 hg5 _; have H5 : Hid (OwnY w w5 v5 (L ++ wide x ++ wide y)) := H4.out.1.app (by rw [List.length_append, vwide_len, HN.out]) (vwide_len y) ho5 hg5; clear ho5 hg5)
        | (go_at_call 18; refine (refWord_any y w3 HX.out.2).mono ?_; rintro e w4 ⟨rfl, hb4, hB4⟩; have H4 : Hid (OwnY w w4 v3 (L ++ wide x) ∧ Bytes w4 (some ⟨w3.heap.size, 0, none⟩) 8 (wide y)) := ⟨H3.out.below hB4, hb4⟩; clear hb4 hB4)
        | (at_builtin; refine vwpList_app _ w.heap.size H2.out.1.2.size rfl _ _ rfl u3 N (cellsOf L) rfl (by rw [HN.out]; exact H2.out.1.1) (some ⟨wr.heap.size, 0, none⟩) 8 8 (wide x) rfl H2.out.2 (fun e => by cases e) (by omega) ?_; intro v3 w3 ho3 hg3 _; have H3 : Hid (OwnY w w3 v3 (L ++ wide x)) := H2.out.1.app HN.out (vwide_len x) ho3 hg3; clear ho3 hg3; have cq3 := HQ.out w3 H3.out.2)
        | (go_at_call 18; refine (refWord_any x wr HX.out.1).mono ?_; rintro e w2 ⟨rfl, hb2, hB2⟩; have H2 : Hid (OwnY w w2 u3 L ∧ Bytes w2 (some ⟨wr.heap.size, 0, none⟩) 8 (wide x)) := ⟨H.out.below hB2, hb2⟩; clear hb2 hB2)
      go_roundw
      case rel => exact ⟨k + 1, by omega, by go_num, by rw [HE.out.2]; exact H5.out⟩
      case measure => simp [intOf]; omega
    · obtain rfl : k = n := by omega
      have HF : Hid (OwnY w wr u3 (headB l)) := by
        have e := H.out
        rw [List.take_of_length_le (by rw [h.1]; exact Nat.le_refl _), ← HS.out.2] at e
        exact e
      have HNl : Hid ((headB l).length ≤ 2000000) := by
        show _ ≤ _
        rw [HS.out.2, List.length_append, prBytes_len, h.1]
        have := HS.out.1
        omega
      have HR : Hid (runB l = headB l ++ wide (vhashN (headB l)) ∧ hashTo (headB l) (headB l).length = (vhashN (headB l) : Int) ∧ vhashN (headB l) < 18446744073709551616) := ⟨rfl, vhashN_int _ _ rfl, vhashN_lt _⟩
      clear H h hok
      generalize vhashN (headB l) = vh at *
      generalize headB l = L at *
      obtain ⟨ad, cp, rfl, _⟩ := vrow_shape HF.out.1
      obtain ⟨N, hN⟩ : ∃ N, N = L.length := ⟨_, rfl⟩
      have HN : Hid (N = L.length) := hN
      have hN2 : N ≤ 2000000 := by rw [hN]; exact HNl.out
      rw [← hN] at HF ⊢
      have HF2 : Hid (OwnY w wr (.slice ad N cp) L) := by rw [hN]; exact (by rw [hN] at HF; exact HF.out : OwnY w wr (.slice ad L.length cp) L)
      have hh := hash_any
      have hhash := refHash_any ad N cp L wr (by rw [hN]; have := HF2.out.1; rw [hN] at this; exact vrow_bytes this) (by unfold maxLen; omega)
      rw [hN, HR.out.2.1, ← hN] at hhash
      clear hN hh
      go_wp2_with first
        | (go_at_call 19; refine hhash.mono ?_; clear hhash; rintro e w2 ⟨rfl, hw2⟩; subst hw2)
        | (go_at_call 18; refine (refWord_any vh w2 HR.out.2.2).mono ?_; rintro e w4 ⟨rfl, hb4, hB4⟩; have H4 : Hid (OwnY w w4 (.slice ad N cp) L ∧ Bytes w4 (some ⟨w2.heap.size, 0, none⟩) 8 (wide vh)) := ⟨HF2.out.below hB4, hb4⟩; clear hb4 hB4)
        | (at_builtin; refine vwpList_app _ w.heap.size H4.out.1.2.size rfl _ _ rfl (.slice ad N cp) N (cellsOf L) rfl (by have := H4.out.1.1; rw [← HN.out] at this; exact this) (some ⟨w2.heap.size, 0, none⟩) 8 8 (wide vh) rfl H4.out.2 (fun e => by cases e) (by omega) ?_; intro v5 w5 ho5 hg5 _; have H5 : Hid (OwnY w w5 v5 (L ++ wide vh)) := H4.out.1.app HN.out (vwide_len vh) ho5 hg5; clear ho5 hg5)
      go_ret
      obtain ⟨ad5, cp5, rfl, _⟩ := vrow_shape H5.out.1
      rw [HR.out.1]
      exact ⟨ad5, cp5, rfl, H5.out.1, H5.out.2⟩
end Go.Proofs.Ytfkepoibgmljkaa

/- The walk of the document's reading of a short form: it answers the same function of the bytes as the program's. -/
namespace Go.Proofs.Ytfkepoibgmljkaa
open Go.RowKit

set_option maxHeartbeats 1000000 in
theorem number_any (a : Option Addr) (n cap : Nat) (l : List UInt8) (w : World) (hb : Bytes w a n l) (hm : n ≤ maxLen) :
    Calls Try.prog 20 #[.slice a n cap] w fun e w' => e = .returned (.tuple #[.int .u64 (num l).1, .int .i64 (num l).2.1, .int .i64 (num l).2.2]) ∧ w' = w := by
  unfold maxLen at hm
  obtain ⟨hl, hc⟩ := hb
  have HN : Hid (num l = numFrom l (n - 0) 0) := by show num l = _; unfold num; rw [hl]; rfl
  go_enter Try.func20, Try.ntmps20
  go_wp2
  go_loop [5, 6, 7] (fun x s i => ∃ k : Nat, k ≤ n ∧ k ≤ 9 ∧ i = .int .i64 k ∧ x = .int .u64 (accTo l k) ∧ s = .int .u64 (128 ^ k) ∧ Hid (num l = numFrom l (n - k) k)) (fun _ _ i => n - (intOf i).toNat)
  case atStart => exact ⟨0, Nat.zero_le _, by omega, rfl, rfl, rfl, HN⟩
  case round =>
    clear HN
    obtain ⟨k, hk, hk9, rfl, rfl, rfl, HN⟩ := hrel
    by_cases hlt : k < n
    · obtain ⟨b, off, rfl, hcell⟩ := hc (by omega)
      have hck := hcell k hlt
      have b0 := bt_lo l k
      have b1 := bt_hi l k
      have h0 := accTo_lo l k
      clear hcell hc hl
      have HS : Hid (accTo l k + bt l k % 128 * 128 ^ k = accTo l (k + 1)) := (accTo_succ l k).symm
      have HF : Hid (k ≤ 9 → (k = 9 → bt l k ≤ 1) → (0 ≤ bt l k % 128 * 128 ^ k ∧ bt l k % 128 * 128 ^ k ≤ 9223372036854775808) ∧ (0 ≤ accTo l k + bt l k % 128 * 128 ^ k ∧ accTo l k + bt l k % 128 * 128 ^ k ≤ 18446744073709551615)) :=
        fun h1 h2 => ⟨group_fits (bt l k) k b0 h1 h2, add_step l (bt l k) k b0 h1 h2⟩
      have NB : Hid (brokenB k (bt l k) = true → num l = (0, 0, 8)) := num_broken HN.out hlt
      have NL : Hid (brokenB k (bt l k) = false → bt l k < 128 → num l = (accTo l (k + 1), k + 1, 0)) := num_last HN.out hlt
      have NN : Hid (brokenB k (bt l k) = false → ¬ bt l k < 128 → num l = numFrom l (n - (k + 1)) (k + 1)) := num_next HN.out hlt
      have P8 : Hid (k ≤ 8 → (128 : Int) ^ k ≤ 72057594037927936) := pow128_8 k
      have P0 : (0 : Int) ≤ 128 ^ k := Int.pow_nonneg (by omega)
      have PS : Hid ((128 : Int) ^ k * 128 = 128 ^ (k + 1)) := (Int.pow_succ 128 k).symm
      clear HN
      generalize bt l k = c at *
      generalize hpw : (128 : Int) ^ k = P at *
      clear hpw
      by_cases h9 : k = 9
      · have k9 : ((k : Int) == 9) = true := by simp; omega
        have kp : 0 < k := by omega
        have H9 : Hid (k = 9) := h9
        clear h9
        by_cases hc1 : 1 < c
        · go_wp2
          go_ret3
          exact ⟨ret3_of (NB.out (by have := H9.out; simp [brokenB]; omega)) (by omega), rfl⟩
        · by_cases hz : c = 0
          · subst hz
            go_wp2
            go_ret3
            exact ⟨ret3_of (NB.out (by have := H9.out; simp [brokenB]; omega)) (by omega), rfl⟩
          · have cz : (c == 0) = false := by simpa using hz
            have h8 : c < 128 := by omega
            have F := HF.out hk9 (fun _ => by omega)
            have e1 : IntKind.u64.wrap (c % 128 * P) = c % 128 * P := wraps64 _ F.1.1 (by omega)
            have e2 : IntKind.u64.wrap (accTo l k + c % 128 * P) = accTo l k + c % 128 * P := wraps64 _ F.2.1 (by omega)
            clear F
            go_wp2
            go_ret3
            exact ⟨ret3_of (by rw [NL.out (by have := H9.out; simp [brokenB]; omega) h8, HS.out]; congr 2) (by omega), rfl⟩
      · have k9 : ((k : Int) == 9) = false := by simp; omega
        have F := HF.out (by omega) (fun _ => by omega)
        have e1 : IntKind.u64.wrap (c % 128 * P) = c % 128 * P := wraps64 _ F.1.1 (by omega)
        have e2 : IntKind.u64.wrap (accTo l k + c % 128 * P) = accTo l k + c % 128 * P := wraps64 _ F.2.1 (by omega)
        have p8 := P8.out (by omega)
        clear F
        by_cases hk0 : ¬ 0 < k
        · by_cases h8 : c < 128
          · go_wp2
            go_ret3
            exact ⟨ret3_of (by rw [NL.out (by simp [brokenB]; omega) h8, HS.out]; congr 2) (by omega), rfl⟩
          · go_wp2
            go_round
            case rel => exact ⟨k + 1, by omega, by omega, by go_num, by rw [HS.out], by rw [← PS.out], NN.out (by simp [brokenB]; omega) h8⟩
            case measure => simp [intOf]; omega
        · have kp : 0 < k := by omega
          by_cases hz : c = 0
          · subst hz
            go_wp2
            go_ret3
            exact ⟨ret3_of (NB.out (by simp [brokenB]; omega)) (by omega), rfl⟩
          · have cz : (c == 0) = false := by simpa using hz
            by_cases h8 : c < 128
            · go_wp2
              go_ret3
              exact ⟨ret3_of (by rw [NL.out (by simp [brokenB]; omega) h8, HS.out]; congr 2) (by omega), rfl⟩
            · go_wp2
              go_round
              case rel => exact ⟨k + 1, by omega, by omega, by go_num, by rw [HS.out], by rw [← PS.out], NN.out (by simp [brokenB]; omega) h8⟩
              case measure => simp [intOf]; omega
    · have NS := num_short HN.out hlt
      clear HN
      have NS' : Hid (num l = (0, 0, 110)) := NS
      clear NS
      go_wp2
      go_ret3
      exact ⟨ret3_of (by rw [NS'.out]; rfl) (by omega), rfl⟩
end Go.Proofs.Ytfkepoibgmljkaa
