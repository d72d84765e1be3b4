/- The walk of RunSpoilt. -/
import Derived.Test.YtgcbbnmjomhngaaVSome
import Derived.Test.YtgcbbnmjomhngaaVTurnP
import Derived.Test.YtgcbbnmjomhngaaVArg
import Derived.Laws.BitsAllLaws
namespace Go.Proofs.Ytgcbbnmjomhngaa
open Go.RowKit Go.Shelf Go.Maps Go.Lib

attribute [local go_sem] Oper.semAt_some

theorem vrow_free {w : World} {B n g c : Nat} {xs : List Value} (h : w.ownsRow B 5 1 (.slice (some ⟨g, 0, none⟩) n c) n xs) (j : Nat) : w.frozen? ⟨g, j, none⟩ = false := by
  rcases h.2 with ⟨e, _⟩ | ⟨g', cap, cur, e, _, hg, _⟩
  · cases e
  · cases e
    simp [World.frozen?, hg]
/-- a byte turned in a row -/
theorem bytes_set {w : World} {g n i : Nat} {l : List UInt8} (h : Bytes w (some ⟨g, 0, none⟩) n l) (hi : i < n) (c : UInt8) (v : Int) (hv : v = (c.toNat : Int)) : Bytes (w.setCell ⟨g, i, none⟩ (.int .u8 v)) (some ⟨g, 0, none⟩) n (l.set i c) := by
  obtain ⟨h1, h2⟩ := h
  refine ⟨by rw [List.length_set, h1], fun h0 => ?_⟩
  obtain ⟨b, o, e, hc⟩ := h2 h0
  cases e
  refine ⟨g, 0, rfl, fun j hj => ?_⟩
  rw [bt_set _ _ _ _ (by omega)]
  have hj' := hc j hj
  have hi' := hc i hi
  rw [Nat.zero_add] at hj' hi' ⊢
  by_cases e : j = i
  · subst e
    rw [if_pos rfl, hv]
    exact World.cell?_setCell_same _ _ _ hi'
  · rw [if_neg e, World.cell?_setCell_other _ _ _ _ (fun e' => e (by injection e' with _ e2; exact e2.symm))]
    exact hj'
theorem bytes_other {w : World} {g i : Nat} {a : Option Addr} {n : Nat} {l : List UInt8} (h : Bytes w a n l) (hne : ∀ x, a = some x → x.block ≠ g) (v : Value) : Bytes (w.setCell ⟨g, i, none⟩ v) a n l := by
  refine ⟨h.1, fun h0 => ?_⟩
  obtain ⟨b, o, e, hc⟩ := h.2 h0
  refine ⟨b, o, e, fun j hj => ?_⟩
  rw [World.cell?_setCell_other _ _ _ _ (fun e' => hne _ e (by injection e' with e1 _; exact e1.symm))]
  exact hc j hj
theorem vbytes_one (w : World) (y : Int) (h0 : 0 ≤ y) (h1 : y ≤ 255) : Bytes (w.alloc (.cells #[.int .u8 y] 5)) (some ⟨w.heap.size, 0, none⟩) 1 [UInt8.ofNat y.toNat] := by
  have hb := World.alloc_heap_new w (.cells #[.int .u8 y] 5)
  generalize w.alloc (.cells #[.int .u8 y] 5) = W at *
  refine ⟨rfl, fun _ => ⟨_, _, rfl, fun j hj => ?_⟩⟩
  obtain rfl : j = 0 := by omega
  have e : bt [UInt8.ofNat y.toNat] 0 = y := by
    unfold bt
    simp
    omega
  rw [e]
  simp [World.cell?, hb]
theorem er_eight {B : List UInt8} {k er : Int} (h : (pairsR B = none ∧ k = 0 ∧ er = 8) ∨ ∃ l, pairsR B = some l ∧ k = (l.length : Int) ∧ er = 0) (hn : pairsR B = none) : er = 8 := by
  rcases h with ⟨_, _, h⟩ | ⟨l, h, _⟩
  · exact h
  · rw [hn] at h; cases h
theorem ofXor (x y : Nat) (hx : x < 256) (hy : y < 256) : ((UInt8.ofNat (x ^^^ y)).toNat : Int) = ((x ^^^ y : Nat) : Int) := by
  have : x ^^^ y < 2 ^ 8 := Nat.xor_lt_two_pow (by omega) (by omega)
  rw [UInt8.toNat_ofNat']
  omega
set_option maxRecDepth 100000 in
set_option maxHeartbeats 4000000 in
theorem runSpoilt_walk (w : World) (a : Option Addr) (n c : Nat) (l : List Pr) (at' y : Int) (h : Prs w a n l) (hok : PrOk l) (hnil : a = none → n = 0 ∧ c = 0) (hcap : n ≤ c)
    (ha0 : -9223372036854775808 ≤ at') (ha1 : at' ≤ 9223372036854775807) (hy0 : 0 ≤ y) (hy1 : y ≤ 255) :
    Calls Try.prog 7 #[.slice a n c, .int .i64 at', .int .u8 y] w fun e w' => e = .returned (.bool true) ∧ Below w.heap.size w w' := by
  have hsm := fun W => some_any W a n c 60 hcap
  obtain ⟨k, hk⟩ : ∃ k, k = min n 60 := ⟨_, rfl⟩
  rw [← hk] at hsm
  have hk60 : k ≤ 60 := by omega
  have hkn : k ≤ n := by omega
  have HA : Hid (Prs w a k (l.take k) ∧ PrOk (l.take k) ∧ (a = none → k = 0)) := ⟨prs_take h k hkn, hok.take k, fun e => by have := (hnil e).1; omega⟩
  have hnil2 : a = none → k = 0 ∧ c = 0 := fun e => ⟨by have := (hnil e).1; omega, (hnil e).2⟩
  have HNl : Hid (a = none → k = 0 ∧ c = 0) := hnil2
  have HW : Hid (∀ W, Calls Try.prog 8 #[] W fun e w' => e = .returned (.bool true) ∧ Below W.heap.size W w') := vwakes_any
  have HSm : Hid (∀ W, Calls Try.prog 9 #[.slice a n c, .int .i64 60] W fun e w' => e = .returned (.slice a k c) ∧ w' = W) := hsm
  clear hk hsm h hok hnil hnil2 hcap
  go_enter Try.func7, Try.ntmps7
  go_upto_region 4 with first
    | (go_at_call 8; refine (HW.out _).mono ?_; rintro e w1 ⟨rfl, hB1⟩; have H1 : Hid (Below w.heap.size w w1) := hB1; clear hB1)
    | (go_at_call 9; refine (HSm.out _).mono ?_; clear HSm; rintro e w2 ⟨rfl, hw2⟩; subst hw2; have HP : Hid (Prs (w1.alloc (.cells #[] 47)) a k (l.take k) ∧ Below w.heap.size w (w1.alloc (.cells #[] 47))) := ⟨HA.out.1.kept (H1.out.alloc H1.out.size _), H1.out.alloc H1.out.size _⟩; have hr0 : (w1.alloc (.cells #[] 47)).ownsRow w.heap.size 47 2 (.slice (some ⟨w1.heap.size, 0, none⟩) 0 0) 0 (prCells []) := row_emptyV w1 w.heap.size H1.out.size)
    | (at_builtin; refine wpList_appV rfl _ _ rfl w.heap.size 0 k c (.slice (some ⟨w1.heap.size, 0, none⟩) 0 0) [] (l.take k) a rfl rfl hr0 HP.out.1 HNl.out (by omega) HP.out.2.size ?_; intro a' c' w3 hnc hown hB3; simp only [Nat.zero_add, List.nil_append] at hnc hown; have H3 : Hid (w3.ownsRow w.heap.size 47 2 (.slice a' k c') k (prCells (l.take k)) ∧ Below w.heap.size w w3) := ⟨hown, HP.out.2.trans hB3⟩; clear hown hB3 hr0 HP H1)
    | (go_at_call 10; refine (make_any w3 a' k c' (l.take k) (own_prs H3.out.1 HA.out.1.1) HA.out.2.1 (fun e => (by obtain ⟨ad, c0, e0, _, e2⟩ := row_shapeV H3.out.1; cases e0; exact e2 e)) (by omega)).mono ?_; rintro e w4 ⟨v, er, rfl, hE, hB4⟩; have H4 : Hid (MakeE (l.take k) w3 v er w4 ∧ Below w.heap.size w w4) := ⟨hE, H3.out.2.trans (hB4.mono H3.out.2.size)⟩; clear hE hB4)
  have hl60 : (l.take k).length ≤ 60 := by rw [List.length_take]; omega
  rcases H4.out.1 with ⟨_, rfl, rfl⟩ | ⟨_, _, rfl, rfl⟩ | ⟨d, ad, cp, hg, hp, _, _, rfl, rfl, hown⟩
  · go_wp2_with (go_at_call 8; refine (HW.out _).mono ?_; rintro e w5 ⟨rfl, hB5⟩)
    go_ret
    exact ⟨rfl, H4.out.2.trans (hB5.mono H4.out.2.size)⟩
  · go_wp2_with (go_at_call 8; refine (HW.out _).mono ?_; rintro e w5 ⟨rfl, hB5⟩)
    go_ret
    exact ⟨rfl, H4.out.2.trans (hB5.mono H4.out.2.size)⟩
  · have hd60 : d.length ≤ 60 := by rw [hp.length_eq]; exact hl60
    obtain ⟨hby, hbn, hbc⟩ := own_slice hown
    have hlen := runB_len d
    have hs1 : (short d.length).length = 1 := by rw [short_one _ (by omega)]; rfl
    rw [hs1] at hlen
    have HT : Hid (∀ i, 1 ≤ i → i < (runB d).length → ∀ cc : UInt8, (runB d)[i]? ≠ some cc → pairsR ((runB d).set i cc) = none) := fun i h1 h2 cc h3 => pairs_turn hg hd60 i h1 h2 cc h3
    have HC : Hid (pairsR ((runB d).take ((runB d).length - 1)) = none) := pairs_cut hg
    have HM : Hid (∀ cc, pairsR (runB d ++ [cc]) = none) := pairs_more hg
    have HO : Hid (pairsR (runB d) = some d) := pairs_runB hg
    have H5 : Hid (Bytes w4 ad (runB d).length (runB d) ∧ (ad = none → (runB d).length = 0 ∧ cp = 0) ∧ (runB d).length ≤ cp ∧ Below w.heap.size w w4) := ⟨hby, hbn, hbc, H4.out.2⟩
    have hN9 : 9 ≤ (runB d).length := by omega
    have hN1 : (runB d).length ≤ 1000 := by omega
    obtain ⟨gb, hgb⟩ : ∃ gb, ad = some ⟨gb, 0, none⟩ := by
      rcases hown.2 with ⟨_, h0⟩ | ⟨g, cap, cur, h', _⟩
      · omega
      · exact ⟨g, by cases h'; rfl⟩
    subst hgb
    clear hby hbn hbc hown hp hl60 hlen hs1 H4 hg hd60 H3 HA HNl
    obtain ⟨N, hN⟩ : ∃ N, N = (runB d).length := ⟨_, rfl⟩
    have HN : Hid (N = (runB d).length) := hN
    rw [← hN] at hN9 hN1 H5 ⊢
    clear hN
    generalize runB d = R at *
    go_upto_region 7 with (at_builtin; refine vwpList_app _ w.heap.size (H5.out.2.2.2.alloc H5.out.2.2.2.size _).size rfl _ _ rfl (.slice (some ⟨w4.heap.size, 0, none⟩) 0 0) 0 [] rfl (World.ownsRow_made w4 #[] 0 H5.out.2.2.2.size (by unfold maxLen; omega) rfl) (some ⟨gb, 0, none⟩) N cp R rfl (vbytes_below H5.out.1 ((Below.refl _ w4).alloc (Nat.le_refl _) _)) H5.out.2.1 (by omega) ?_; intro v5 w5 hown5 hg5 hx5; simp only [Nat.zero_add, List.nil_append] at hown5)
    obtain ⟨g5, c5, rfl⟩ : ∃ g5 c5, v5 = .slice (some ⟨g5, 0, none⟩) N c5 := by
      rcases hown5.2 with ⟨_, h0⟩ | ⟨g, cap, cur, h', _⟩
      · omega
      · exact ⟨g, cap, h'⟩
    have H6 : Hid (w5.ownsRow w.heap.size 5 1 (.slice (some ⟨g5, 0, none⟩) N c5) N (cellsOf R) ∧ Bytes w5 (some ⟨g5, 0, none⟩) N R ∧ Bytes w5 (some ⟨gb, 0, none⟩) N R ∧ Below w.heap.size w w5 ∧ gb ≠ g5 ∧ w.heap.size ≤ g5 ∧ N ≤ c5) := by
      have hlt : gb < w4.heap.size := by
        obtain ⟨b, o, e, hc⟩ := H5.out.1.2 (by omega)
        cases e
        exact World.block_lt_of_cell? w4 _ (hc 0 (by omega))
      obtain ⟨q1, _, q3⟩ := own_slice hown5
      have hg : w4.heap.size ≤ g5 := by
        rcases hx5 with h | h
        · have e : g5 = w4.heap.size := Option.some.inj h
          omega
        · have e := Option.some.inj h
          simp at e
          omega
      have hB4 := (H5.out.2.2.2.alloc H5.out.2.2.2.size (.cells #[] 5)).grown hg5 (H5.out.2.2.2.alloc H5.out.2.2.2.size _).size (fun z hz => by cases hz; exact H5.out.2.2.2.size)
      have hB5 : Below w4.heap.size w4 w5 := ((Below.refl _ w4).alloc (Nat.le_refl _) (.cells #[] 5)).grown hg5 (by simp) (fun z hz => by cases hz; exact Nat.le_refl _)
      exact ⟨hown5, q1, vbytes_below H5.out.1 hB5, hB4, by omega, by have := H5.out.2.2.2.size; omega, q3⟩
    clear hown5 hg5 hx5
    go_upto_region 8 with fail
    have hr0 := Int.emod_nonneg (max at' 0) (by omega : (N : Int) - 1 ≠ 0)
    have hr1 := Int.emod_lt_of_pos (max at' 0) (by omega : (0 : Int) < (N : Int) - 1)
    obtain ⟨i, hi⟩ : ∃ i : Nat, wrap64 (1 + max at' 0 % ((N : Int) - 1)) = (i : Int) := ⟨(1 + max at' 0 % ((N : Int) - 1)).toNat, by unfold wrap64; omega⟩
    have hi2 : 1 ≤ i ∧ i < N := by unfold wrap64 at hi; omega
    rw [hi]
    have HI : Hid (1 ≤ i ∧ i < N) := hi2
    have i1 : (i : Int) < (N : Int) := by omega
    clear hi hr0 hr1 hi2
    obtain ⟨cb, hcb, fcb⟩ : ∃ x : Int, w5.cell? ⟨g5, i, none⟩ = some (.int .u8 x) ∧ x = bt R i := by
      obtain ⟨b, o, e, hc⟩ := H6.out.2.1.2 (by omega)
      cases e
      exact ⟨_, by have := hc i HI.out.2; rwa [Nat.zero_add] at this, rfl⟩
    have fz : w5.frozen? ⟨g5, i, none⟩ = false := vrow_free H6.out.1 i
    have hb0 := bt_lo R i
    have hb1 := bt_hi R i
    have HV : Hid (bits BinOp.xor IntKind.u8 cb y = ((UInt8.ofNat (cb.toNat ^^^ y.toNat)).toNat : Int)) := by
      show _ = _
      rw [u8_xor cb y (by omega) (by omega) hy0 (by omega), ofXor _ _ (by omega) (by omega)]
    obtain ⟨cc, hcc⟩ : ∃ cc, cc = UInt8.ofNat (cb.toNat ^^^ y.toNat) := ⟨_, rfl⟩
    rw [← hcc] at HV
    have hRi : R[i]? = some (UInt8.ofNat cb.toNat) := by
      have hl := H6.out.2.1.1
      rw [List.getElem?_eq_getElem (by omega), fcb]
      unfold bt
      rw [List.getD_eq_getElem?_getD, List.getElem?_eq_getElem (by omega)]
      simp
    have HQ : Hid ((y = 0 → pairsR (R.set i cc) = some d) ∧ (y ≠ 0 → pairsR (R.set i cc) = none)) := by
      refine ⟨fun e => ?_, fun e => HT.out i HI.out.1 (by rw [← HN.out]; exact HI.out.2) cc (fun h => e ?_)⟩
      · subst e
        have e2 : cc = UInt8.ofNat cb.toNat := by rw [hcc]; simp
        have e3 : R.set i cc = R := by
          rw [e2]
          apply List.ext_getElem?
          intro j
          by_cases hj : j = i
          · subst hj
            rw [List.getElem?_set_self (by rw [H6.out.2.1.1]; exact HI.out.2), hRi]
          · rw [List.getElem?_set_ne (Ne.symm hj)]
        rw [e3]
        exact HO.out
      · rw [hRi] at h
        have h' := Option.some.inj h
        rw [hcc] at h'
        have h2 := congrArg UInt8.toNat h'
        have h3 := ofXor cb.toNat y.toNat (by omega) (by omega)
        rw [← h2, UInt8.toNat_ofNat'] at h3
        have h4 : cb.toNat ^^^ y.toNat = cb.toNat := by omega
        have h5 := congrArg (cb.toNat ^^^ ·) h4
        simp only [← Nat.xor_assoc, Nat.xor_self, Nat.zero_xor] at h5
        omega
    clear hRi hcc hb0 hb1 HT HO fcb
    go_upto_region 9 with fail
    have H9 : Hid (Bytes (w5.setCell ⟨g5, i, none⟩ (.int .u8 (bits BinOp.xor IntKind.u8 cb y))) (some ⟨g5, 0, none⟩) N (R.set i cc) ∧ Bytes (w5.setCell ⟨g5, i, none⟩ (.int .u8 (bits BinOp.xor IntKind.u8 cb y))) (some ⟨gb, 0, none⟩) N R ∧ Below w.heap.size w (w5.setCell ⟨g5, i, none⟩ (.int .u8 (bits BinOp.xor IntKind.u8 cb y)))) :=
      ⟨bytes_set H6.out.2.1 HI.out.2 cc _ HV.out, bytes_other H6.out.2.2.1 (fun x e => by cases e; exact H6.out.2.2.2.2.1) _, H6.out.2.2.2.1.setCell (p := ⟨g5, i, none⟩) H6.out.2.2.2.2.2.1 _⟩
    generalize w5.setCell ⟨g5, i, none⟩ (.int .u8 (bits BinOp.xor IntKind.u8 cb y)) = w6 at *
    have hc5 := H6.out.2.2.2.2.2.2
    have hcp := H5.out.2.2.1
    have HCh : Hid (∃ e1 : Int, (y = 0 ∧ e1 = 0 ∨ y ≠ 0 ∧ e1 = 8) ∧ Calls Try.prog 17 #[.slice (some ⟨g5, 0, none⟩) N c5] w6 fun e w' => (∃ k : Int, e = .returned (.tuple #[.int .i64 k, .int .i64 e1])) ∧ Below w6.heap.size w6 w') := by
      have hck := vcheck_any w6 (some ⟨g5, 0, none⟩) N c5 (R.set i cc) H9.out.1 (fun e => by cases e) hc5 (by omega)
      by_cases hy : y = 0
      · refine ⟨0, .inl ⟨hy, rfl⟩, hck.mono ?_⟩
        rintro e w' ⟨k, er, rfl, (⟨h, _⟩ | ⟨l, h, rfl, rfl⟩), hB'⟩
        · rw [HQ.out.1 hy] at h; cases h
        · exact ⟨⟨_, rfl⟩, hB'⟩
      · refine ⟨8, .inr ⟨hy, rfl⟩, hck.mono ?_⟩
        rintro e w' ⟨k, er, rfl, (⟨h, rfl, rfl⟩ | ⟨l, h, _⟩), hB'⟩
        · exact ⟨⟨_, rfl⟩, hB'⟩
        · rw [HQ.out.2 hy] at h; cases h
    obtain ⟨e1, he1, hck1⟩ := HCh.out
    have HE1 : Hid (y = 0 ∧ e1 = 0 ∨ y ≠ 0 ∧ e1 = 8) := he1
    have hck2 : ∀ W, Below w6.heap.size w6 W → Calls Try.prog 17 #[.slice (some ⟨gb, 0, none⟩) (N - 1) cp] W fun e w' => (∃ k : Int, e = .returned (.tuple #[.int .i64 k, .int .i64 8])) ∧ Below W.heap.size W w' := fun W hW => by
      refine (vcheck_any W (some ⟨gb, 0, none⟩) (N - 1) cp (R.take (N - 1)) ((vbytes_below H9.out.2.1 hW).take (N - 1) (by omega)) (fun e => by cases e) (by omega) (by omega)).mono ?_
      rintro e w' ⟨k, er, rfl, (⟨h, rfl, rfl⟩ | ⟨l, h, _⟩), hB'⟩
      · exact ⟨⟨_, rfl⟩, hB'⟩
      · rw [HN.out, HC.out] at h; cases h
    have HC2 : Hid (∀ W, Below w6.heap.size w6 W → Calls Try.prog 17 #[.slice (some ⟨gb, 0, none⟩) (N - 1) cp] W fun e w' => (∃ k : Int, e = .returned (.tuple #[.int .i64 k, .int .i64 8])) ∧ Below W.heap.size W w') := hck2
    have en1 : ((N : Int) - 1).toNat = N - 1 := by omega
    have in1 : (0 : Int) ≤ (N : Int) - 1 := by omega
    have in2 : (N : Int) - 1 ≤ (cp : Int) := by omega
    clear hck2 HCh he1 H6 HV HQ hcb fz i1 HI hc5
    go_upto_region 11 with first
      | (go_at_call 17; refine hck1.mono ?_; clear hck1; rintro e w7 ⟨⟨k1, rfl⟩, hB7⟩)
      | (go_at_call 17; (try simp only [en1]); refine (HC2.out w7 hB7).mono ?_; clear HC2; rintro e w8 ⟨⟨k2, rfl⟩, hB8⟩)
    have H8 : Hid (Bytes w8 (some ⟨gb, 0, none⟩) N R ∧ Below w.heap.size w w8) := by
      have h7 := H9.out.2.2.trans (hB7.mono H9.out.2.2.size)
      have b7 := vbytes_below H9.out.2.1 hB7
      exact ⟨vbytes_below b7 hB8, h7.trans (hB8.mono h7.size)⟩
    clear hB7 hB8 H9
    go_upto_region 12 with first
      | (at_builtin; refine vwpList_app _ w.heap.size (H8.out.2.alloc H8.out.2.size _).size rfl _ _ rfl (.slice (some ⟨w8.heap.size, 0, none⟩) 0 0) 0 [] rfl (World.ownsRow_made w8 #[] 0 H8.out.2.size (by unfold maxLen; omega) rfl) (some ⟨gb, 0, none⟩) N cp R rfl (vbytes_below H8.out.1 ((Below.refl _ w8).alloc (Nat.le_refl _) _)) H5.out.2.1 (by omega) ?_; intro v9 w9 hown9 hg9 _; simp only [Nat.zero_add, List.nil_append] at hown9; have HB9 : Hid (Below w.heap.size w w9 ∧ w9.ownsRow w.heap.size 5 1 v9 N (cellsOf R)) := ⟨(H8.out.2.alloc H8.out.2.size _).grown hg9 (H8.out.2.alloc H8.out.2.size _).size (fun z hz => by cases hz; exact H8.out.2.size), hown9⟩; clear hown9 hg9)
      | (at_builtin; refine vwpList_app _ w.heap.size (HB9.out.1.alloc HB9.out.1.size _).size rfl _ _ rfl v9 N (cellsOf R) rfl (HB9.out.2.alloc _) (some ⟨w9.heap.size, 0, none⟩) 1 1 [UInt8.ofNat y.toNat] rfl (vbytes_one w9 y hy0 hy1) (fun e => by cases e) (by omega) ?_; intro v10 w10 hown10 hg10 _; obtain ⟨a10, c10, rfl, _⟩ := vrow_shape hown10; have HB10 : Hid (Below w.heap.size w w10 ∧ Bytes w10 a10 (N + 1) (R ++ [UInt8.ofNat y.toNat]) ∧ (a10 = none → N + 1 = 0) ∧ N + 1 ≤ c10) := (by rw [← cellsOf_append] at hown10; obtain ⟨q1, q2, q3⟩ := own_slice hown10; exact ⟨(HB9.out.1.alloc HB9.out.1.size _).grown hg10 (HB9.out.1.alloc HB9.out.1.size _).size (fun z hz => (vrow_block HB9.out.2 z hz).1), q1, fun e => (q2 e).1, q3⟩); clear hown10 hg10)
      | (go_at_call 17; refine (vcheck_any w10 a10 (N + 1) c10 _ HB10.out.2.1 HB10.out.2.2.1 HB10.out.2.2.2 (by omega)).mono ?_; rintro e w11 ⟨k3, er3, rfl, h3, hB11⟩; have H11 : Hid (Below w.heap.size w w11 ∧ er3 = 8) := ⟨HB10.out.1.trans (hB11.mono HB10.out.1.size), er_eight h3 (HM.out _)⟩; clear h3 hB11)
    obtain rfl := H11.out.2
    rcases HE1.out with ⟨rfl, rfl⟩ | ⟨hy, rfl⟩
    · go_wp2_with (go_at_call 8; refine (HW.out _).mono ?_; rintro e w12 ⟨rfl, hB12⟩)
      go_ret
      exact ⟨rfl, H11.out.1.trans (hB12.mono H11.out.1.size)⟩
    · have e2 : (y == 0) = false := by simpa using hy
      go_wp2_with (go_at_call 8; refine (HW.out _).mono ?_; rintro e w12 ⟨rfl, hB12⟩)
      go_ret
      exact ⟨rfl, H11.out.1.trans (hB12.mono H11.out.1.size)⟩
theorem runSpoilt_law (w : World) (a : Option Addr) (n c : Nat) (l : List Pr) (at' y : Int) (h : PrIn w a n c l) (ha0 : -9223372036854775808 ≤ at') (ha1 : at' ≤ 9223372036854775807) (hy0 : 0 ≤ y) (hy1 : y ≤ 255) :
    Calls Try.prog 7 #[.slice a n c, .int .i64 at', .int .u8 y] w fun e w' => e = .returned (.bool true) ∧ Below w.heap.size w w' :=
  runSpoilt_walk w a n c l at' y h.prs h.ok h.nil h.cap ha0 ha1 hy0 hy1
end Go.Proofs.Ytgcbbnmjomhngaa
