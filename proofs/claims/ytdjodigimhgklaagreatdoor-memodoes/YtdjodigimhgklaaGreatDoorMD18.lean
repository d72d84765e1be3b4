import Derived.Test.YtdjodigimhgklaaGreatDoorMD15
import Derived.Test.YtdjodigimhgklaaGreatDoorMD16
import Derived.Deep.CutRange
/- The walk of pairs: the pairs of a run of these bytes. -/
namespace Go.Proofs.YtdjodigimhgklaaGreatDoor
open Go.RowKit Go.Shelf Go.Maps

attribute [local go_sem] Oper.semAt_some

/-- what pairs answers: the value, the error, and what the memory holds -/
def PairsE (b : List UInt8) (w : World) (v : Value) (er : Int) (w' : World) : Prop :=
  (pairsR b = none ∧ v = .slice none 0 0 ∧ er = 8) ∨ ∃ l G, pairsR b = some l ∧ v = .slice (some ⟨G, 0, none⟩) l.length l.length ∧ er = 0 ∧ w.heap.size ≤ G ∧ RowV w' G l
theorem vbelow_drewN {B : Nat} {w W : World} (h : Below B w W) (k : Nat) : Below B w (W.drewN k) := ⟨h.os, h.tape, h.output, h.size, h.block⟩
theorem unfit {b : List UInt8} (h : ¬ FitB b) : pairsR b = none := by unfold pairsR; rw [if_neg h]
theorem fit_none {b : List UInt8} (h : FitB b) (h2 : ¬ (wv (b.drop (b.length - 8)) = vhashN (b.take (b.length - 8)) ∧ risF 0 (tellP b) = true)) : pairsR b = none := by unfold pairsR; rw [if_pos h, if_neg h2]
theorem fit_some {b : List UInt8} (h : FitB b) (h2 : wv (b.drop (b.length - 8)) = vhashN (b.take (b.length - 8)) ∧ risF 0 (tellP b) = true) : pairsR b = some (tellP b) := by unfold pairsR; rw [if_pos h, if_pos h2]
/-- Word, at a place that has eight bytes -/
theorem vword_at (W : World) (r g p : Nat) (b : List UInt8) (h : Rd W r g p 0 b) (h8 : p + 8 ≤ b.length) :
    Calls Tryz.prog 116 #[.pointer (some ⟨r, 0, none⟩)] W fun e w' => e = .returned (.int .u64 (wv (b.drop p) : Int)) ∧ Rd w' r g (p + 8) 0 b ∧ W.grownBy w' (some r) := by
  refine (word_yes W r g p (b.length - p) b h (by omega) (by omega)).mono ?_
  rintro e w' ⟨rfl, h1, h2⟩
  refine ⟨?_, h1, h2⟩
  rw [wv_int, wv_take _ (by rw [List.length_drop]; omega)]
set_option maxRecDepth 20000 in
theorem vstep_risesG (w : World) {ops : Array Oper} {o : Oper} {a : Act} {K : Act → World → Prop} {Q : Exit → Act → World → Prop} {E : Prop} (hw : Region.wanted o (yielded ops a.tmps) = true) (x : Nat) (t1 : TypeId)
    (ho : o.op = .call { callee := .value (.func 72), args := #[.tmp x], argTypes := #[t1] }) (vx : Value) (hx : a.tmps[x]?.getD undef = vx) (R : Value → World → Prop)
    (hc : Calls Tryz.prog 72 #[vx] w fun e w' => ∃ v, e = .returned v ∧ R v w') (hK : ∀ v w', R v w' → K (a.put o.dst v) w') :
    if Region.wanted o (yielded ops a.tmps) = true then Oper.wp Tryz.prog o a w K Q else E := by
  rw [if_pos hw]
  unfold Oper.wp execOp
  simp [ho, resolve, invoke, go_sem, hx]
  refine hc.mono ?_
  rintro e w' ⟨v, rfl, hR⟩
  have := hK v w' hR
  simpa [go_sem] using this
/-- the row behind k pairs -/
def fillP (B : List UInt8) (n k : Nat) : List Pr := readP B k ++ List.replicate (n - k) (0, 0)
theorem fillP_set (B : List UInt8) (n k : Nat) (h : k < n) : (fillP B n k).set k (wv (B.drop (16 * k)), wv (B.drop (16 * k + 8))) = fillP B n (k + 1) := by
  unfold fillP
  have e1 : readP B (k + 1) = readP B k ++ [(wv (B.drop (16 * k)), wv (B.drop (16 * k + 8)))] := by
    have h1 := readP_get (k + 1) B k (by omega)
    have h2 := readP_take (k + 1) k B (by omega)
    have h3 : (readP B (k + 1)).take (k + 1) = readP B (k + 1) := List.take_of_length_le (by rw [readP_len]; omega)
    rw [← h3, List.take_add_one, h1, h2]
    rfl
  rw [e1, List.set_append_right _ _ (by rw [readP_len]; omega), readP_len, Nat.sub_self]
  obtain ⟨j, hj⟩ : ∃ j, n - k = j + 1 := ⟨n - k - 1, by omega⟩
  rw [hj, show n - (k + 1) = j by omega, List.replicate_succ, List.set_cons_zero, List.append_assoc]
  rfl
theorem fillP_full (B : List UInt8) (n : Nat) : fillP B n n = readP B n := by simp [fillP]
theorem fillP_len (B : List UInt8) (n k : Nat) (h : k ≤ n) : (fillP B n k).length = n := by
  unfold fillP
  rw [List.length_append, readP_len, List.length_replicate]
  omega

set_option maxRecDepth 100000 in
set_option maxHeartbeats 8000000 in
theorem pairs_any (w : World) (a : Option Addr) (n c : Nat) (b : List UInt8) (hb : Bytes w a n b) (hnil : a = none → n = 0) (hcap : n ≤ c) (hn : n ≤ 1000000000) :
    Calls Tryz.prog 125 #[.slice a n c] w fun e w' => ∃ v er, e = .returned (.tuple #[v, .int .i64 er]) ∧ PairsE b w v er w' ∧ Below w.heap.size w w' := by
  have hmx : Tryz.prog.follows .mixedOrders = true := by kernel_rfl
  have hbl := hb.1
  have hle := num_le b
  have hfit := num_fits b
  have hnb := num_back b
  obtain ⟨X, k, er, hnum⟩ : ∃ x k e, num b = (x, k, e) := ⟨_, _, _, rfl⟩
  have hrd := oread_any a n c b w hb (by omega)
  rw [hnum] at hle hfit
  simp only at hle hfit
  have HN : Hid (b.length = n ∧ k ≤ b.length ∧ 0 ≤ X ∧ X ≤ 18446744073709551615) := ⟨hbl, hle, hfit.1, hfit.2⟩
  have HB : Hid (Bytes w a n b) := hb
  have Hnum : Hid (num b = (X, k, er)) := hnum
  clear hb hbl hle hfit
  by_cases he : er = 0
  · subst he
    obtain ⟨Xn, rfl, _, _, _, _, _⟩ := hnb X k hnum
    have huy : ∀ W r g, Rd W r g 0 0 b → Calls Tryz.prog 123 #[.pointer (some ⟨r, 0, none⟩)] W fun e w' => e = .returned (.int .u64 (Xn : Int)) ∧ Rd w' r g k 0 b ∧ W.grownBy w' (some r) := fun W r g h => by
      have := uint_yes W r g 0 b h (by rw [List.drop_zero, hnum])
      rw [List.drop_zero, hnum, Nat.zero_add] at this
      exact this
    have HU : Hid (∀ W r g, Rd W r g 0 0 b → Calls Tryz.prog 123 #[.pointer (some ⟨r, 0, none⟩)] W fun e w' => e = .returned (.int .u64 (Xn : Int)) ∧ Rd w' r g k 0 b ∧ W.grownBy w' (some r)) := huy
    clear huy hnb hnum
    by_cases hX : Xn ≤ 65536
    · by_cases hL : n = k + (Xn * 16 + 8)
      · have HF : Hid (FitB b ∧ tellP b = readP (b.drop k) Xn) := by
          unfold FitB tellP
          rw [Hnum.out]
          refine ⟨⟨rfl, by show (Xn : Int) ≤ 65536; omega, ?_⟩, by simp⟩
          rw [HN.out.1]
          show n = k + 16 * Xn + 8
          omega
        have hn8 : 8 ≤ n := by omega
        have HL : Hid (n = k + (Xn * 16 + 8)) := hL
        clear hL
        obtain ⟨qa, qo, rfl, hq⟩ := HB.out.2 (by omega)
        clear hq hnil
        go_enter Tryz.func125, Tryz.ntmps125
        go_wp2_with first
          | (go_at_call 113; refine hrd.mono ?_; clear hrd; rintro e w1 ⟨r, g, rfl, hr, hg, hR1, hG1⟩; have H1 : Hid (Rd w1 r g 0 0 b ∧ w.heap.size ≤ r ∧ w.heap.size ≤ g ∧ Below w.heap.size w w1) := ⟨hR1, hr, hg, vgrown_below hG1⟩; clear hr hg hR1 hG1)
          | (go_at_call 123; refine (HU.out w1 r g H1.out.1).mono ?_; clear HU; rintro e w2 ⟨rfl, hR2, hG2⟩; have H2 : Hid (Rd w2 r g k 0 b ∧ w.heap.size ≤ r ∧ w.heap.size ≤ g ∧ Below w.heap.size w w2) := ⟨hR2, H1.out.2.1, H1.out.2.2.1, H1.out.2.2.2.grown hG2 H1.out.2.2.2.size (fun z hz => by cases hz; exact H1.out.2.1)⟩; clear hR2 hG2; have c21 := H2.out.1.c1)
          | (go_at_call 117; refine (err_any w2 r 0 c21).mono ?_; rintro e w3 ⟨rfl, hw3⟩; subst hw3)
          | (go_at_call 114; refine (left_any _ r g k (Xn * 16 + 8) 0 b H2.out.1 (by rw [HN.out.1]; exact HL.out)).mono ?_; rintro e w4 ⟨rfl, kd, hw4⟩; have H4 : Hid (Rd w4 r g k 0 b ∧ w.heap.size ≤ r ∧ w.heap.size ≤ g ∧ Below w.heap.size w w4) := ⟨by rw [hw4]; exact H2.out.1.drewN kd, H2.out.2.1, H2.out.2.2.1, by rw [hw4]; exact vbelow_drewN H2.out.2.2.2 _⟩; clear hw4 c21)
          | (at_make; refine wpList_make_prs _ rfl _ _ rfl _ _ Xn _ _ rfl rfl (by omega) (by omega) (by omega) ?_; intro w5 hr5 hB5)
        have H5 : Hid (Rd w5 r g k 0 b ∧ RowV w5 w4.heap.size (fillP (b.drop k) Xn 0) ∧ w4.heap.size ≠ r ∧ w4.heap.size ≠ g ∧ w.heap.size ≤ r ∧ w.heap.size ≤ w4.heap.size ∧ Below w.heap.size w w5) := by
          have h1 := World.block_lt_of_cell? w4 _ H4.out.1.c0
          have h2 : g < w4.heap.size := by
            have := H4.out.1.row 0 (by rw [HN.out.1]; omega)
            exact World.block_lt_of_cell? w4 _ this
          refine ⟨H4.out.1.kept (row := none) ⟨hB5.os, hB5.tape, hB5.output, hB5.size, fun j hj _ => hB5.block j hj⟩ (by simp) (by simp), ?_, by simp only at h1; omega, by omega, H4.out.2.1, H4.out.2.2.2.size, H4.out.2.2.2.trans (hB5.mono H4.out.2.2.2.size)⟩
          show RowV _ _ (readP _ 0 ++ List.replicate (Xn - 0) (0, 0))
          exact hr5
        clear hr5 hB5 H4 H2 H1
        generalize w4.heap.size = G at *
        go_loopw [32] (fun i wr => ∃ j : Nat, j ≤ Xn ∧ i = .int .i64 (j : Int) ∧ Hid (Rd wr r g (k + 16 * j) 0 b ∧ RowV wr G (fillP (b.drop k) Xn j) ∧ G ≠ r ∧ G ≠ g ∧ w.heap.size ≤ r ∧ w.heap.size ≤ G ∧ Below w.heap.size w wr)) (fun i _ => Xn - (intOf i).toNat)
        case atStart => exact ⟨0, Nat.zero_le _, rfl, H5⟩
        case round =>
          clear H5
          obtain ⟨j, hj, rfl, H⟩ := hrel
          by_cases hlt : j < Xn
          · have i2 : (j : Int) < (Xn : Int) := by omega
            have hw1 := vword_at wr r g (k + 16 * j) b H.out.1 (by rw [HN.out.1]; have := HL.out; omega)
            have hw2 := fun W (h : Rd W r g (k + 16 * j + 8) 0 b) => vword_at W r g (k + 16 * j + 8) b h (by rw [HN.out.1]; have := HL.out; omega)
            have HS : Hid ((fillP (b.drop k) Xn j).set j (wv (b.drop (k + 16 * j)), wv (b.drop (k + 16 * j + 8))) = fillP (b.drop k) Xn (j + 1)) := by
              have := fillP_set (b.drop k) Xn j hlt
              rw [List.drop_drop, List.drop_drop, ← Nat.add_assoc] at this
              exact this
            have HW2 : Hid (∀ W, Rd W r g (k + 16 * j + 8) 0 b → Calls Tryz.prog 116 #[.pointer (some ⟨r, 0, none⟩)] W fun e w' => e = .returned (.int .u64 (wv (b.drop (k + 16 * j + 8)) : Int)) ∧ Rd w' r g (k + 16 * j + 8 + 8) 0 b ∧ W.grownBy w' (some r)) := hw2
            have HJ : Hid (j < (fillP (b.drop k) Xn j).length) := by
              show _ < _
              rw [fillP_len _ _ _ hj]; exact hlt
            clear hw2
            generalize wv (b.drop (k + 16 * j)) = x at *
            generalize wv (b.drop (k + 16 * j + 8)) = y at *
            go_wp2_with first
              | (go_at_call 116; refine hw1.mono ?_; clear hw1; rintro e w6 ⟨rfl, hR6, hG6⟩; have H6 : Hid (Rd w6 r g (k + 16 * j + 8) 0 b ∧ RowV w6 G (fillP (b.drop k) Xn j) ∧ Below w.heap.size w w6) := ⟨hR6, H.out.2.1.kept hG6 (fun e => H.out.2.2.1 (Option.some.inj e).symm), H.out.2.2.2.2.2.2.grown hG6 H.out.2.2.2.2.2.2.size (fun z hz => by cases hz; exact H.out.2.2.2.2.1)⟩; clear hR6 hG6)
              | (go_at_call 116; refine (HW2.out w6 H6.out.1).mono ?_; clear HW2; rintro e w7 ⟨rfl, hR7, hG7⟩; have H7 : Hid (Rd w7 r g (k + 16 * j + 8 + 8) 0 b ∧ RowV w7 G (fillP (b.drop k) Xn j) ∧ Below w.heap.size w w7) := ⟨hR7, H6.out.2.1.kept hG7 (fun e => H.out.2.2.1 (Option.some.inj e).symm), H6.out.2.2.grown hG7 H6.out.2.2.size (fun z hz => by cases hz; exact H.out.2.2.2.2.1)⟩; clear hR7 hG7; obtain ⟨p7, hp7⟩ : ∃ p, (fillP (b.drop k) Xn j)[j]? = some p := ⟨_, List.getElem?_eq_getElem HJ.out⟩; obtain ⟨u1, u2⟩ := H7.out.2.1.cell hp7; have v1 := H7.out.2.1.frozen (j * 2); have v2 := H7.out.2.1.frozen (j * 2 + 1); clear hp7)
            have H8 : Hid (Rd ((w7.setCell ⟨G, j * 2, none⟩ (.int .u64 (x : Int))).setCell ⟨G, j * 2 + 1, none⟩ (.int .u64 (y : Int))) r g (k + 16 * (j + 1)) 0 b ∧ RowV ((w7.setCell ⟨G, j * 2, none⟩ (.int .u64 (x : Int))).setCell ⟨G, j * 2 + 1, none⟩ (.int .u64 (y : Int))) G (fillP (b.drop k) Xn (j + 1)) ∧ G ≠ r ∧ G ≠ g ∧ w.heap.size ≤ r ∧ w.heap.size ≤ G ∧ Below w.heap.size w ((w7.setCell ⟨G, j * 2, none⟩ (.int .u64 (x : Int))).setCell ⟨G, j * 2 + 1, none⟩ (.int .u64 (y : Int)))) := by
              refine ⟨?_, by rw [← HS.out]; exact H7.out.2.1.set j x y, H.out.2.2.1, H.out.2.2.2.1, H.out.2.2.2.2.1, H.out.2.2.2.2.2.1, (H7.out.2.2.setCell (p := ⟨G, j * 2, none⟩) H.out.2.2.2.2.2.1 _).setCell (p := ⟨G, j * 2 + 1, none⟩) H.out.2.2.2.2.2.1 _⟩
              rw [show k + 16 * (j + 1) = k + 16 * j + 8 + 8 by omega]
              refine H7.out.1.kept (row := some G) (grownBy_trans (grownBy_setCell w7 G _ _) (grownBy_setCell _ G _ _)) ?_ ?_
              · intro e; exact H.out.2.2.1 (Option.some.inj e)
              · intro e; exact H.out.2.2.2.1 (Option.some.inj e)
            clear u1 u2 v1 v2 H7 H6 H HS HJ
            go_roundw
            case rel => exact ⟨j + 1, by omega, by go_num, H8⟩
            case measure => simp [intOf]; omega
          · obtain rfl : j = Xn := by omega
            go_upto_region 11 with fail
            rw [fillP_full] at H
            have HE : Hid (Rd wr r g (k + 16 * j) 0 b ∧ RowV wr G (tellP b) ∧ w.heap.size ≤ r ∧ G ≠ r ∧ w.heap.size ≤ G ∧ Below w.heap.size w wr) := ⟨H.out.1, by rw [HF.out.2]; exact H.out.2.1, H.out.2.2.2.2.1, H.out.2.2.1, H.out.2.2.2.2.2.1, H.out.2.2.2.2.2.2⟩
            have hlen : (tellP b).length = j := by rw [HF.out.2, readP_len]
            have hwd := fun W (h : Rd W r g (k + 16 * j) 0 b) => vword_at W r g (k + 16 * j) b h (by rw [HN.out.1]; have := HL.out; omega)
            have hhs := fun W (h : Below w.heap.size w W) => hash_any (some ⟨qa, qo, none⟩) (n - 8) c (b.take (n - 8)) W ((vbytes_below HB.out h).take (n - 8) (by omega)) (by unfold maxLen; omega)
            rw [show k + 16 * j = b.length - 8 by rw [HN.out.1]; have := HL.out; omega] at hwd
            have ehs : hashTo (b.take (n - 8)) (n - 8) = (vhashN (b.take (b.length - 8)) : Int) := by
              rw [HN.out.1]
              exact vhashN_int _ _ (by rw [List.length_take, HN.out.1]; omega)
            rw [ehs] at hhs
            have hfn := fit_none HF.out.1
            have hfs := fit_some HF.out.1
            have HEr : Hid (Rd wr r g (b.length - 8) 0 b) := by
              have := HE.out.1
              rwa [show k + 16 * j = b.length - 8 by rw [HN.out.1]; have := HL.out; omega] at this
            generalize wv (b.drop (b.length - 8)) = x at *
            generalize vhashN (b.take (b.length - 8)) = y at *
            have HWd : Hid (∀ W, Rd W r g (b.length - 8) 0 b → Calls Tryz.prog 116 #[.pointer (some ⟨r, 0, none⟩)] W fun e w' => e = .returned (.int .u64 (x : Int)) ∧ Rd w' r g (b.length - 8 + 8) 0 b ∧ W.grownBy w' (some r)) := hwd
            have HHs : Hid (∀ W, Below w.heap.size w W → Calls Tryz.prog 112 #[.slice (some ⟨qa, qo, none⟩) (n - 8) c] W fun e w' => e = .returned (.int .u64 (y : Int)) ∧ w' = W) := hhs
            have HFN : Hid (¬ (x = y ∧ risF 0 (tellP b) = true) → pairsR b = none) := hfn
            have HFS : Hid (x = y ∧ risF 0 (tellP b) = true → pairsR b = some (tellP b)) := hfs
            have HLn : Hid ((tellP b).length = j) := hlen
            clear hwd hhs hfn hfs hlen H ehs
            have ew : IntKind.i64.wrap ((n : Int) - 8) = ((n - 8 : Nat) : Int) := by rw [IntKind.wrap_i64]; omega
            have i10 : ((n - 8 : Nat) : Int) ≤ (c : Int) := by omega
            generalize n - 8 = m8 at *
            by_cases hxy : x = y
            · subst hxy
              refine wp_region_G (S := SB 1000 (fun _ => True) (fun _ => True)) hmx ?_
              have hSB : SB 1000 (fun _ => True) (fun _ => True) (Array.replicate 14 false) wr.drew := SB.on trivial trivial
              refine wpAnyG_takeP (i := 0) (v := ?_) rfl (by kernel_rfl) (by kernel_rfl) (by kernel_rfl) (fun _ _ _ h => h) rfl (Or.inl ⟨by rfl, ?_⟩) (by assumption) ?_
              rotate_left
              · intro Y _; go_simp; try with_reducible rfl
              intro hSB0
              try simp only [Act.put, List.getElem_toArray, List.getElem_cons_zero, List.setIfInBounds_toArray, List.set_cons_zero, List.set_cons_succ]
              refine wpAnyG_takeP (i := 2) (v := ?_) rfl (by kernel_rfl) (by kernel_rfl) (by kernel_rfl) (fun _ _ _ h => h) rfl (Or.inl ⟨by rfl, ?_⟩) (by assumption) ?_
              rotate_left
              · intro Y _; go_simp; try with_reducible rfl
              intro hSB2
              try simp only [Act.put, List.getElem_toArray, List.getElem_cons_zero, List.getElem_cons_succ, List.setIfInBounds_toArray, List.set_cons_zero, List.set_cons_succ]
              refine wpAnyG_takeP (i := 3) (v := ?_) rfl (by kernel_rfl) (by kernel_rfl) (by kernel_rfl) (fun _ _ _ h => h) rfl (Or.inl ⟨by rfl, ?_⟩) (by assumption) ?_
              rotate_left
              · intro Y _; go_simp; try with_reducible rfl
              intro hSB3
              try simp only [Act.put, List.getElem_toArray, List.getElem_cons_zero, List.getElem_cons_succ, List.setIfInBounds_toArray, List.set_cons_zero, List.set_cons_succ]
              refine wpAnyG_takeP (i := 4) (v := ?_) rfl (by kernel_rfl) (by kernel_rfl) (by kernel_rfl) (fun _ _ _ h => h) rfl (Or.inl ⟨by rfl, ?_⟩) (by assumption) ?_
              rotate_left
              · intro Y _; go_simp; try with_reducible rfl
              intro hSB4
              try simp only [Act.put, List.getElem_toArray, List.getElem_cons_zero, List.getElem_cons_succ, List.setIfInBounds_toArray, List.set_cons_zero, List.set_cons_succ]
              refine wpAnyG_takeP (i := 5) (v := ?_) rfl (by kernel_rfl) (by kernel_rfl) (by kernel_rfl) (fun _ _ _ h => h) rfl (Or.inl ⟨by rfl, ?_⟩) (by assumption) ?_
              rotate_left
              · intro Y _; go_simp; try with_reducible rfl
              intro hSB5
              try simp only [Act.put, List.getElem_toArray, List.getElem_cons_zero, List.getElem_cons_succ, List.setIfInBounds_toArray, List.set_cons_zero, List.set_cons_succ]
              try simp only [ew]
              refine wpAnyG_takeP (i := 6) (v := ?_) rfl (by kernel_rfl) (by kernel_rfl) (by kernel_rfl) (fun _ _ _ h => h) rfl (Or.inl ⟨by rfl, ?_⟩) (by assumption) ?_
              rotate_left
              · intro Y _; go_simp; try with_reducible rfl
              intro hSB6
              try simp only [Act.put, List.getElem_toArray, List.getElem_cons_zero, List.getElem_cons_succ, List.setIfInBounds_toArray, List.set_cons_zero, List.set_cons_succ]
              refine wpAnyG_one (i := 1) (by kernel_rfl) rfl (fun K hK => ?_)
              have hBd : Below wr.heap.size wr wr.drew := ⟨rfl, rfl, rfl, Nat.le_refl _, fun _ _ => rfl⟩
              refine vstep_word _ (by rfl) _ _ (by rfl) _ (by rfl) (fun v W => v = .int .u64 (x : Int) ∧ RowV W G (tellP b) ∧ Below w.heap.size w W) ((HWd.out wr.drew (HEr.out.drewN 1)).mono (fun e w' h => ⟨_, h.1, rfl, (HE.out.2.1.below hBd HE.out.2.1.lt).kept h.2.2 (fun e => HE.out.2.2.2.1 (Option.some.inj e).symm), (HE.out.2.2.2.2.2.trans (hBd.mono HE.out.2.2.2.2.2.size)).grown h.2.2 (by have := HE.out.2.2.2.2.2.size; exact this) (fun z hz => by cases hz; exact HE.out.2.2.1)⟩)) ?_
              rintro v w8 ⟨rfl, hRow8, hB8⟩
              refine hK.out _ _ (SB.on trivial trivial) (fun hSB1 => ?_)
              clear hK K
              try simp only [Act.put, List.getElem_toArray, List.getElem_cons_zero, List.getElem_cons_succ, List.setIfInBounds_toArray, List.set_cons_zero, List.set_cons_succ]
              refine wpAnyG_one (i := 7) (by kernel_rfl) rfl (fun K hK => ?_)
              refine vstep_hash _ (by rfl) _ _ (by rfl) _ (by rfl) (fun v W => v = .int .u64 (x : Int) ∧ W = w8) ((HHs.out w8 hB8).mono (fun e w' h => ⟨_, h.1, rfl, h.2⟩)) ?_
              rintro v w9 ⟨rfl, h9⟩
              subst h9
              refine hK.out _ _ (SB.on trivial trivial) (fun hSB7 => ?_)
              clear hK K
              try simp only [Act.put, List.getElem_toArray, List.getElem_cons_zero, List.getElem_cons_succ, List.setIfInBounds_toArray, List.set_cons_zero, List.set_cons_succ]
              refine wpAnyG_takeP (i := 8) (v := ?_) rfl (by kernel_rfl) (by kernel_rfl) (by kernel_rfl) (fun _ _ _ h => h) rfl (Or.inl ⟨by rfl, ?_⟩) (by assumption) ?_
              rotate_left
              · intro Y _; go_simp; try with_reducible rfl
              intro hSB8
              try simp only [Act.put, List.getElem_toArray, List.getElem_cons_zero, List.getElem_cons_succ, List.setIfInBounds_toArray, List.set_cons_zero, List.set_cons_succ]
              try simp only [bne_self_eq_false]
              refine wpAnyG_takeP (i := 9) (v := ?_) rfl (by kernel_rfl) (by kernel_rfl) (by kernel_rfl) (fun _ _ _ h => h) rfl (Or.inl ⟨by rfl, ?_⟩) (by assumption) ?_
              rotate_left
              · intro Y _; go_simp; try with_reducible rfl
              intro hSB9
              try simp only [Act.put, List.getElem_toArray, List.getElem_cons_zero, List.getElem_cons_succ, List.setIfInBounds_toArray, List.set_cons_zero, List.set_cons_succ]
              refine wpAnyG_takeP (i := 10) (v := ?_) rfl (by kernel_rfl) (by kernel_rfl) (by kernel_rfl) (fun _ _ _ h => h) rfl (Or.inl ⟨by rfl, ?_⟩) (by assumption) ?_
              rotate_left
              · intro Y _; go_simp; try with_reducible rfl
              intro hSB10
              try simp only [Act.put, List.getElem_toArray, List.getElem_cons_zero, List.getElem_cons_succ, List.setIfInBounds_toArray, List.set_cons_zero, List.set_cons_succ]
              refine wpAnyG_one (i := 11) (by kernel_rfl) rfl (fun K hK => ?_)
              refine vstep_risesG _ (by rfl) _ _ (by rfl) _ (by rfl) (fun v W => v = .bool (risF 0 (tellP b)) ∧ Below w9.heap.size w9 W) ((rises_any w9 _ j j (tellP b) (by have := hRow8.prs; rw [HLn.out] at this; exact this) (by omega)).mono (fun e w' h => ⟨_, h.1, rfl, h.2⟩)) ?_
              rintro v w10 ⟨rfl, hB10⟩
              refine hK.out _ _ (SB.on trivial trivial) (fun hSB11 => ?_)
              clear hK K
              try simp only [Act.put, List.getElem_toArray, List.getElem_cons_zero, List.getElem_cons_succ, List.setIfInBounds_toArray, List.set_cons_zero, List.set_cons_succ]
              refine wpAnyG_takeP (i := 12) (v := ?_) rfl (by kernel_rfl) (by kernel_rfl) (by kernel_rfl) (fun _ _ _ h => h) rfl (Or.inl ⟨by rfl, ?_⟩) (by assumption) ?_
              rotate_left
              · intro Y _; go_simp; try with_reducible rfl
              intro hSB12
              try simp only [Act.put, List.getElem_toArray, List.getElem_cons_zero, List.getElem_cons_succ, List.setIfInBounds_toArray, List.set_cons_zero, List.set_cons_succ]
              refine wpAnyG_takeP (i := 13) (v := ?_) rfl (by kernel_rfl) (by kernel_rfl) (by kernel_rfl) (fun _ _ _ h => h) rfl (Or.inl ⟨by rfl, ?_⟩) (by assumption) ?_
              rotate_left
              · intro Y _; go_simp; try with_reducible rfl
              intro hSB13
              try simp only [Act.put, List.getElem_toArray, List.getElem_cons_zero, List.getElem_cons_succ, List.setIfInBounds_toArray, List.set_cons_zero, List.set_cons_succ]
              refine wpAnyG_done (by kernel_rfl) ?_ _
              clear hSB hSB0 hSB1 hSB2 hSB3 hSB4 hSB5 hSB6 hSB7 hSB8 hSB9 hSB10 hSB11 hSB12 hSB13
              have HZ : Hid (RowV w10 G (tellP b) ∧ Below w.heap.size w w10 ∧ w.heap.size ≤ G) := ⟨hRow8.below hB10 hRow8.lt, hB8.trans (hB10.mono hB8.size), HE.out.2.2.2.2.1⟩
              clear hRow8 hB8 hB10 HE HWd HHs HEr
              cases hri : risF 0 (tellP b) with
              | true =>
                have HP : Hid (pairsR b = some (tellP b)) := HFS.out ⟨rfl, hri⟩
                go_wp2
                go_ret2
                exact ⟨_, _, rfl, .inr ⟨tellP b, G, HP.out, by rw [HLn.out]; rfl, rfl, HZ.out.2.2, HZ.out.1⟩, HZ.out.2.1⟩
              | false =>
                have HP : Hid (pairsR b = none) := HFN.out (fun h => by rw [hri] at h; cases h.2)
                go_wp2
                go_ret2
                exact ⟨_, _, rfl, .inl ⟨HP.out, rfl, rfl⟩, HZ.out.2.1⟩
            · have hne : ((x : Int) != (y : Int)) = true := by simp; omega
              refine wp_region_G (S := SB 1000 (fun _ => True) (fun _ => True)) hmx ?_
              have hSB : SB 1000 (fun _ => True) (fun _ => True) (Array.replicate 14 false) wr.drew := SB.on trivial trivial
              refine wpAnyG_takeP (i := 0) (v := ?_) rfl (by kernel_rfl) (by kernel_rfl) (by kernel_rfl) (fun _ _ _ h => h) rfl (Or.inl ⟨by rfl, ?_⟩) (by assumption) ?_
              rotate_left
              · intro Y _; go_simp; try with_reducible rfl
              intro hSB0
              try simp only [Act.put, List.getElem_toArray, List.getElem_cons_zero, List.setIfInBounds_toArray, List.set_cons_zero, List.set_cons_succ]
              refine wpAnyG_takeP (i := 2) (v := ?_) rfl (by kernel_rfl) (by kernel_rfl) (by kernel_rfl) (fun _ _ _ h => h) rfl (Or.inl ⟨by rfl, ?_⟩) (by assumption) ?_
              rotate_left
              · intro Y _; go_simp; try with_reducible rfl
              intro hSB2
              try simp only [Act.put, List.getElem_toArray, List.getElem_cons_zero, List.getElem_cons_succ, List.setIfInBounds_toArray, List.set_cons_zero, List.set_cons_succ]
              refine wpAnyG_takeP (i := 3) (v := ?_) rfl (by kernel_rfl) (by kernel_rfl) (by kernel_rfl) (fun _ _ _ h => h) rfl (Or.inl ⟨by rfl, ?_⟩) (by assumption) ?_
              rotate_left
              · intro Y _; go_simp; try with_reducible rfl
              intro hSB3
              try simp only [Act.put, List.getElem_toArray, List.getElem_cons_zero, List.getElem_cons_succ, List.setIfInBounds_toArray, List.set_cons_zero, List.set_cons_succ]
              refine wpAnyG_takeP (i := 4) (v := ?_) rfl (by kernel_rfl) (by kernel_rfl) (by kernel_rfl) (fun _ _ _ h => h) rfl (Or.inl ⟨by rfl, ?_⟩) (by assumption) ?_
              rotate_left
              · intro Y _; go_simp; try with_reducible rfl
              intro hSB4
              try simp only [Act.put, List.getElem_toArray, List.getElem_cons_zero, List.getElem_cons_succ, List.setIfInBounds_toArray, List.set_cons_zero, List.set_cons_succ]
              refine wpAnyG_takeP (i := 5) (v := ?_) rfl (by kernel_rfl) (by kernel_rfl) (by kernel_rfl) (fun _ _ _ h => h) rfl (Or.inl ⟨by rfl, ?_⟩) (by assumption) ?_
              rotate_left
              · intro Y _; go_simp; try with_reducible rfl
              intro hSB5
              try simp only [Act.put, List.getElem_toArray, List.getElem_cons_zero, List.getElem_cons_succ, List.setIfInBounds_toArray, List.set_cons_zero, List.set_cons_succ]
              try simp only [ew]
              refine wpAnyG_takeP (i := 6) (v := ?_) rfl (by kernel_rfl) (by kernel_rfl) (by kernel_rfl) (fun _ _ _ h => h) rfl (Or.inl ⟨by rfl, ?_⟩) (by assumption) ?_
              rotate_left
              · intro Y _; go_simp; try with_reducible rfl
              intro hSB6
              try simp only [Act.put, List.getElem_toArray, List.getElem_cons_zero, List.getElem_cons_succ, List.setIfInBounds_toArray, List.set_cons_zero, List.set_cons_succ]
              refine wpAnyG_one (i := 1) (by kernel_rfl) rfl (fun K hK => ?_)
              have hBd : Below wr.heap.size wr wr.drew := ⟨rfl, rfl, rfl, Nat.le_refl _, fun _ _ => rfl⟩
              refine vstep_word _ (by rfl) _ _ (by rfl) _ (by rfl) (fun v W => v = .int .u64 (x : Int) ∧ RowV W G (tellP b) ∧ Below w.heap.size w W) ((HWd.out wr.drew (HEr.out.drewN 1)).mono (fun e w' h => ⟨_, h.1, rfl, (HE.out.2.1.below hBd HE.out.2.1.lt).kept h.2.2 (fun e => HE.out.2.2.2.1 (Option.some.inj e).symm), (HE.out.2.2.2.2.2.trans (hBd.mono HE.out.2.2.2.2.2.size)).grown h.2.2 (by have := HE.out.2.2.2.2.2.size; exact this) (fun z hz => by cases hz; exact HE.out.2.2.1)⟩)) ?_
              rintro v w8 ⟨rfl, hRow8, hB8⟩
              refine hK.out _ _ (SB.on trivial trivial) (fun hSB1 => ?_)
              clear hK K
              try simp only [Act.put, List.getElem_toArray, List.getElem_cons_zero, List.getElem_cons_succ, List.setIfInBounds_toArray, List.set_cons_zero, List.set_cons_succ]
              refine wpAnyG_one (i := 7) (by kernel_rfl) rfl (fun K hK => ?_)
              refine vstep_hash _ (by rfl) _ _ (by rfl) _ (by rfl) (fun v W => v = .int .u64 (y : Int) ∧ W = w8) ((HHs.out w8 hB8).mono (fun e w' h => ⟨_, h.1, rfl, h.2⟩)) ?_
              rintro v w9 ⟨rfl, h9⟩
              subst h9
              refine hK.out _ _ (SB.on trivial trivial) (fun hSB7 => ?_)
              clear hK K
              try simp only [Act.put, List.getElem_toArray, List.getElem_cons_zero, List.getElem_cons_succ, List.setIfInBounds_toArray, List.set_cons_zero, List.set_cons_succ]
              refine wpAnyG_takeP (i := 8) (v := ?_) rfl (by kernel_rfl) (by kernel_rfl) (by kernel_rfl) (fun _ _ _ h => h) rfl (Or.inl ⟨by rfl, ?_⟩) (by assumption) ?_
              rotate_left
              · intro Y _; go_simp; try with_reducible rfl
              intro hSB8
              try simp only [Act.put, List.getElem_toArray, List.getElem_cons_zero, List.getElem_cons_succ, List.setIfInBounds_toArray, List.set_cons_zero, List.set_cons_succ]
              try simp only [hne]
              refine wpAnyG_takeP (i := 9) (v := ?_) rfl (by kernel_rfl) (by kernel_rfl) (by kernel_rfl) (fun _ _ _ h => h) rfl (Or.inl ⟨by rfl, ?_⟩) (by assumption) ?_
              rotate_left
              · intro Y _; go_simp; try with_reducible rfl
              intro hSB9
              try simp only [Act.put, List.getElem_toArray, List.getElem_cons_zero, List.getElem_cons_succ, List.setIfInBounds_toArray, List.set_cons_zero, List.set_cons_succ]
              refine wpAnyG_takeP (i := 10) (v := undef) rfl (by kernel_rfl) (by kernel_rfl) (by kernel_rfl) (fun _ _ _ h => h) rfl (Or.inr ⟨by rfl, rfl⟩) (by assumption) ?_
              intro hSB10
              try simp only [Act.put, List.getElem_toArray, List.getElem_cons_zero, List.getElem_cons_succ, List.setIfInBounds_toArray, List.set_cons_zero, List.set_cons_succ]
              refine wpAnyG_takeP (i := 11) (v := undef) rfl (by kernel_rfl) (by kernel_rfl) (by kernel_rfl) (fun _ _ _ h => h) rfl (Or.inr ⟨by rfl, rfl⟩) (by assumption) ?_
              intro hSB11
              try simp only [Act.put, List.getElem_toArray, List.getElem_cons_zero, List.getElem_cons_succ, List.setIfInBounds_toArray, List.set_cons_zero, List.set_cons_succ]
              refine wpAnyG_takeP (i := 12) (v := undef) rfl (by kernel_rfl) (by kernel_rfl) (by kernel_rfl) (fun _ _ _ h => h) rfl (Or.inr ⟨by rfl, rfl⟩) (by assumption) ?_
              intro hSB12
              try simp only [Act.put, List.getElem_toArray, List.getElem_cons_zero, List.getElem_cons_succ, List.setIfInBounds_toArray, List.set_cons_zero, List.set_cons_succ]
              refine wpAnyG_takeP (i := 13) (v := ?_) rfl (by kernel_rfl) (by kernel_rfl) (by kernel_rfl) (fun _ _ _ h => h) rfl (Or.inl ⟨by rfl, ?_⟩) (by assumption) ?_
              rotate_left
              · intro Y _; go_simp; try with_reducible rfl
              intro hSB13
              try simp only [Act.put, List.getElem_toArray, List.getElem_cons_zero, List.getElem_cons_succ, List.setIfInBounds_toArray, List.set_cons_zero, List.set_cons_succ]
              refine wpAnyG_done (by kernel_rfl) ?_ _
              clear hSB hSB0 hSB1 hSB2 hSB3 hSB4 hSB5 hSB6 hSB7 hSB8 hSB9 hSB10 hSB11 hSB12 hSB13
              have HP : Hid (pairsR b = none) := HFN.out (fun h => hxy h.1)
              have HZ : Hid (Below w.heap.size w w9) := hB8
              clear hRow8 hB8 HE HWd HHs HEr
              go_wp2
              go_ret2
              exact ⟨_, _, rfl, .inl ⟨HP.out, rfl, rfl⟩, HZ.out⟩
      · have i7 : ¬ (n - k : Nat) = Xn * 16 + 8 := by have := HN.out; omega
        have i6 : (((n - k : Nat) : Int) != (Xn : Int) * 16 + 8) = true := by simp; omega
        have HP : Hid (pairsR b = none) := unfit (by
          unfold FitB
          rw [Hnum.out]
          simp only [HN.out.1]
          rintro ⟨_, _, h⟩; rw [Int.toNat_natCast] at h; omega)
        clear hnil
        go_enter Tryz.func125, Tryz.ntmps125
        go_wp2_with first
          | (go_at_call 113; refine hrd.mono ?_; clear hrd; rintro e w1 ⟨r, g, rfl, hr, hg, hR1, hG1⟩; have H1 : Hid (Rd w1 r g 0 0 b ∧ w.heap.size ≤ r ∧ w.heap.size ≤ g ∧ Below w.heap.size w w1) := ⟨hR1, hr, hg, vgrown_below hG1⟩; clear hr hg hR1 hG1)
          | (go_at_call 123; refine (HU.out w1 r g H1.out.1).mono ?_; clear HU; rintro e w2 ⟨rfl, hR2, hG2⟩; have H2 : Hid (Rd w2 r g k 0 b ∧ w.heap.size ≤ r ∧ w.heap.size ≤ g ∧ Below w.heap.size w w2) := ⟨hR2, H1.out.2.1, H1.out.2.2.1, H1.out.2.2.2.grown hG2 H1.out.2.2.2.size (fun z hz => by cases hz; exact H1.out.2.1)⟩; clear hR2 hG2; have c21 := H2.out.1.c1)
          | (go_at_call 117; refine (err_any w2 r 0 c21).mono ?_; rintro e w3 ⟨rfl, hw3⟩; subst hw3)
          | (go_at_call 114; refine (left_any _ r g k (n - k) 0 b H2.out.1 (by have := HN.out; omega)).mono ?_; rintro e w4 ⟨rfl, kd, hw4⟩; have H4 : Hid (Below w.heap.size w w4) := (by rw [hw4]; exact vbelow_drewN H2.out.2.2.2 _); clear hw4 c21)
        go_ret2
        exact ⟨_, _, rfl, .inl ⟨HP.out, rfl, rfl⟩, H4.out⟩
    · have i5 : (65536 : Int) < (Xn : Int) := by omega
      have HP : Hid (pairsR b = none) := unfit (by
        unfold FitB
        rw [Hnum.out]
        simp only [HN.out.1]
        rintro ⟨_, h, _⟩; omega)
      clear hnil
      go_enter Tryz.func125, Tryz.ntmps125
      go_wp2_with first
        | (go_at_call 113; refine hrd.mono ?_; clear hrd; rintro e w1 ⟨r, g, rfl, hr, hg, hR1, hG1⟩; have H1 : Hid (Rd w1 r g 0 0 b ∧ w.heap.size ≤ r ∧ w.heap.size ≤ g ∧ Below w.heap.size w w1) := ⟨hR1, hr, hg, vgrown_below hG1⟩; clear hr hg hR1 hG1)
        | (go_at_call 123; refine (HU.out w1 r g H1.out.1).mono ?_; clear HU; rintro e w2 ⟨rfl, hR2, hG2⟩; have H2 : Hid (Rd w2 r g k 0 b ∧ w.heap.size ≤ r ∧ w.heap.size ≤ g ∧ Below w.heap.size w w2) := ⟨hR2, H1.out.2.1, H1.out.2.2.1, H1.out.2.2.2.grown hG2 H1.out.2.2.2.size (fun z hz => by cases hz; exact H1.out.2.1)⟩; clear hR2 hG2; have c21 := H2.out.1.c1)
        | (go_at_call 117; refine (err_any w2 r 0 c21).mono ?_; rintro e w3 ⟨rfl, hw3⟩; subst hw3)
      go_ret2
      exact ⟨_, _, rfl, .inl ⟨HP.out, rfl, rfl⟩, H2.out.2.2.2⟩
  · have hne : (er != 0) = true := by simp [he]
    have huy : ∀ W r g, Rd W r g 0 0 b → Calls Tryz.prog 123 #[.pointer (some ⟨r, 0, none⟩)] W fun e w' => e = .returned (.int .u64 0) ∧ Rd w' r g 0 er b ∧ W.grownBy w' (some r) := fun W r g h => by
      have := uint_no W r g 0 b h (by rw [List.drop_zero, hnum]; exact hne)
      rw [List.drop_zero, hnum] at this
      exact this
    have HU : Hid (∀ W r g, Rd W r g 0 0 b → Calls Tryz.prog 123 #[.pointer (some ⟨r, 0, none⟩)] W fun e w' => e = .returned (.int .u64 0) ∧ Rd w' r g 0 er b ∧ W.grownBy w' (some r)) := huy
    clear huy hnb hnum
    have HP : Hid (pairsR b = none) := unfit (by
      unfold FitB
      rw [Hnum.out]
      simp only [HN.out.1]
      rintro ⟨h, _, _⟩; exact he h)
    clear hnil
    go_enter Tryz.func125, Tryz.ntmps125
    go_wp2_with first
      | (go_at_call 113; refine hrd.mono ?_; clear hrd; rintro e w1 ⟨r, g, rfl, hr, hg, hR1, hG1⟩; have H1 : Hid (Rd w1 r g 0 0 b ∧ w.heap.size ≤ r ∧ w.heap.size ≤ g ∧ Below w.heap.size w w1) := ⟨hR1, hr, hg, vgrown_below hG1⟩; clear hr hg hR1 hG1)
      | (go_at_call 123; refine (HU.out w1 r g H1.out.1).mono ?_; clear HU; rintro e w2 ⟨rfl, hR2, hG2⟩; have H2 : Hid (Below w.heap.size w w2) := H1.out.2.2.2.grown hG2 H1.out.2.2.2.size (fun z hz => by cases hz; exact H1.out.2.1); have c21 := hR2.c1; clear hR2 hG2)
      | (go_at_call 117; refine (err_any w2 r er c21).mono ?_; rintro e w3 ⟨rfl, hw3⟩; subst hw3)
    go_ret2
    exact ⟨_, _, rfl, .inl ⟨HP.out, rfl, rfl⟩, H2.out⟩
end Go.Proofs.YtdjodigimhgklaaGreatDoor
