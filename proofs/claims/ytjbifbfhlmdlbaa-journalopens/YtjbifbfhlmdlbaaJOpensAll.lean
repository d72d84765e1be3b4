import Derived.Test.YtjbifbfhlmdlbaaRefPut
import Derived.Test.YtjbifbfhlmdlbaaRefHash
import Derived.Test.YtjbifbfhlmdlbaaJForm
import Derived.Test.YtjbifbfhlmdlbaaPayAddEnd
import Derived.Test.YtjbifbfhlmdlbaaJParse
import Derived.Test.YtjbifbfhlmdlbaaNum
import Derived.Test.YtjbifbfhlmdlbaaJDone
import Derived.Test.YtjbifbfhlmdlbaaJArg
import Derived.Test.YtjbifbfhlmdlbaaJWakes
import Derived.Test.YtjbifbfhlmdlbaaRows
/- The walk of the document's own form of a record. -/
namespace Go.Proofs.Ytjbifbfhlmdlbaa
open Go.RowKit

theorem ownsRow_toBytes' {w : World} {B n c : Nat} {ad : Option Addr} {l : List UInt8} (h : w.ownsRow B 5 1 (.slice ad n c) n (cellsOf l)) : Bytes w ad n l := (ownsRow_toBytes h).1

theorem refHash_nat (a : Option Addr) (n c : Nat) (l : List UInt8) (w : World) (hb : Bytes w a n l) (hm : n ≤ maxLen) :
    Calls Try.prog 35 #[.slice a n c] w fun e w' => e = .returned (.int .u64 (hashN l)) ∧ w' = w := by
  rw [hashN_eq, hb.1]
  exact refHash_any a n c l w hb hm

set_option maxHeartbeats 1000000 in
theorem refRecord_any (a : Option Addr) (n c : Nat) (l : List UInt8) (w : World) (hb : Bytes w a n l) (hn : n ≤ 140737488351232) :
    Calls Try.prog 17 #[.slice a n c] w fun e w' => ∃ b, e = .returned (.slice (some ⟨b, 0, none⟩) (recB l).length (recB l).length) ∧ Bytes w' (some ⟨b, 0, none⟩) (recB l).length (recB l) ∧ Below w.heap.size w w' ∧ w.heap.size ≤ b := by
  have hrs := run_string w a n c l hb
  have hl := hb.1
  have hx1 := refText_any ⟨l.toArray⟩ w (by show l.length ≤ _; omega)
  go_enter Try.func17, Try.ntmps17
  go_wp2_with fail
  refine hx1.mono ?_
  clear hx1
  rintro e w1 ⟨v, rfl, hown1, hB1⟩
  obtain ⟨a1, c1, rfl, _, _⟩ := ownsRow_shape' hown1
  have hb1' := (ownsRow_toBytes' hown1)
  have hsz : (ByteArray.mk l.toArray).size = n := hl
  rw [hsz] at hown1 hb1' ⊢
  obtain ⟨N1, hN1⟩ : ∃ N1, N1 = (short n).length + n := ⟨_, rfl⟩
  have HN1 : Hid (N1 = (short n).length + n) := hN1
  rw [← hN1] at hb1' ⊢
  have hb2 : Bytes w1 a n l := (Turn.of_below (fun _ => False) hB1).bytes hb (fun _ _ _ => id)
  have hs10 := short_len n
  have hN1b : N1 ≤ 140737488351300 := by omega
  clear hb hrs hown1 hN1
  go_wp2_with fail
  refine (refHash_nat a n c l w1 hb2 (by unfold maxLen; omega)).mono ?_
  rintro e w2 ⟨rfl, rfl⟩
  go_wp2_with fail
  refine (refWord_any (hashN l) w2 (hashN_lt l)).mono ?_
  rintro e w3 ⟨rfl, hbw, hB3⟩
  have hb3 : Bytes w3 a1 N1 (short n ++ l) := (Turn.of_below (fun _ => False) hB3).bytes hb1' (fun _ _ _ => id)
  have hB13 : Hid (Below w.heap.size w w3) := hB1.trans (hB3.mono hB1.size)
  have hx4 := both_any a1 (some ⟨w2.heap.size, 0, none⟩) N1 8 c1 8 _ _ w3 hb3 hbw (by omega)
  clear hb2 hb1' hb3 hbw hB1 hB3
  go_wp2_with fail
  refine hx4.mono ?_
  clear hx4
  rintro e w4 ⟨rfl, hown4, hg4⟩
  go_wp2
  go_ret
  have hE : N1 + 8 = (recB l).length := by rw [recB_len, hl, HN1.out]
  have hE2 : short n ++ l ++ wide (hashN l) = recB l := by unfold recB; rw [hl, List.append_assoc]
  rw [hE, hE2] at hown4
  refine ⟨w3.heap.size, by rw [← hE]; rfl, (ownsRow_bytes hown4).1, hB13.out.grown hg4 hB13.out.size (by simp), hB13.out.size⟩

end Go.Proofs.Ytjbifbfhlmdlbaa

/- Plain: what the document's own reading of a file's bytes tells of its first record is what rec1 says. Nothing of the program is named here. -/
namespace Go.Proofs.Ytjbifbfhlmdlbaa
open Go.RowKit

theorem wideVal_inj (t u : List UInt8) : ∀ k, wideVal t k = wideVal u k → ∀ i, i < k → bt t i = bt u i := by
  intro k
  induction k with
  | zero => intro _ i hi; omega
  | succ k ih =>
    intro h i hi
    rw [wideVal_succ, wideVal_succ] at h
    have a0 := bt_lo t k
    have a1 := bt_hi t k
    have b0 := bt_lo u k
    have b1 := bt_hi u k
    by_cases e : i = k
    · subst e; omega
    · exact ih (by omega) i (by omega)

theorem bt_ext {t u : List UInt8} (hl : t.length = u.length) (h : ∀ i, i < t.length → bt t i = bt u i) : t = u := by
  refine List.ext_getElem hl fun i h1 h2 => ?_
  have := h i h1
  simp only [bt, List.getD, List.getElem?_eq_getElem h1, List.getElem?_eq_getElem h2, Option.getD_some] at this
  exact UInt8.toNat_inj.1 (by omega)

theorem wide_back (t : List UInt8) (ht : t.length = 8) (X : Nat) (hX : X < 18446744073709551616) (h : wideVal t 8 = (X : Int)) : t = wide X := by
  have hw := wideVal_wide X [] 8 (by omega) (by omega)
  rw [List.append_nil] at hw
  have e : wideVal t 8 = wideVal (wide X) 8 := by rw [h, hw]; simp
  exact bt_ext (by rw [ht, wide_len]) (fun i hi => wideVal_inj t (wide X) 8 e i (by omega))

theorem rec1_a {l : List UInt8} (h : (num l).2.2 = 110) : rec1 l = .short := by
  unfold rec1; rw [txt_num l 262144 (by decide) (by rw [h]; decide), h]; simp
theorem rec1_b {l : List UInt8} (h : (num l).2.2 ≠ 110) (h0 : (num l).2.2 ≠ 0) : rec1 l = .wrong := by
  unfold rec1; rw [txt_num l 262144 (by decide) h0]; simp [h, h0]
theorem rec1_c {l : List UInt8} (h0 : (num l).2.2 = 0) (h : 262144 < (num l).1) : rec1 l = .wrong := by
  unfold rec1; rw [txt_long l 262144 (by decide) h0 h]; simp
theorem rec1_d {l : List UInt8} {X k : Nat} (hn : num l = ((X : Int), k, 0)) (h : X ≤ 262144) (hs : l.length - k < X + 8) : rec1 l = .short := by
  by_cases h2 : l.length - k < X
  · unfold rec1; rw [txt_short l 262144 (by decide) (by rw [hn]) (by rw [hn]; simp only; omega) (by rw [hn]; simp only; omega)]; simp
  · have hle := num_le l
    rw [hn] at hle
    simp only at hle
    unfold rec1
    rw [txt_ok l 262144 (by decide) (by rw [hn]) (by rw [hn]; simp only; omega) (by rw [hn]; simp only; omega), hn]
    simp only
    rw [if_neg (by decide), if_neg (by simp), if_pos (by simp; omega)]

theorem recB_at {l : List UInt8} {X k : Nat} (hn : num l = ((X : Int), k, 0)) (hs : X + 8 ≤ l.length - k) : ((l.drop k).take X).length = X ∧ short X = l.take k ∧ (recB ((l.drop k).take X)).length = k + X + 8 ∧ k ≤ l.length ∧ 1 ≤ k := by
  obtain ⟨X', e, h1, h2, h3, h4, _⟩ := num_back l _ _ hn
  have e' : X' = X := by omega
  subst e'
  have hp : ((l.drop k).take X').length = X' := by rw [List.length_take, List.length_drop]; omega
  exact ⟨hp, h1, by rw [recB_len, hp, h1, List.length_take]; omega, h4, h2⟩

theorem rec1_e {l : List UInt8} {X k : Nat} (hn : num l = ((X : Int), k, 0)) (h : X ≤ 262144) (hs : X + 8 ≤ l.length - k) (he : recB ((l.drop k).take X) = l.take (k + X + 8)) : rec1 l = .one ((l.drop k).take X) (k + X + 8) := by
  obtain ⟨hp, _, hr, _⟩ := recB_at hn hs
  have hl : l = recB ((l.drop k).take X) ++ l.drop (k + X + 8) := by rw [he, List.take_append_drop]
  have := rec1_rec ((l.drop k).take X) (l.drop (k + X + 8)) (by omega)
  rw [← hl, hr] at this
  exact this

theorem rec1_f {l : List UInt8} {X k : Nat} (hn : num l = ((X : Int), k, 0)) (h : X ≤ 262144) (hs : X + 8 ≤ l.length - k) (he : recB ((l.drop k).take X) ≠ l.take (k + X + 8)) : rec1 l = .wrong := by
  obtain ⟨hp, hsh, hr, hk, _⟩ := recB_at hn hs
  have ht : txt l 262144 = (k, k + X, 0) := by
    rw [txt_ok l 262144 (by decide) (by rw [hn]) (by rw [hn]; simp only; omega) (by rw [hn]; simp only; omega), hn]; simp
  have hpay : pay1 l = (l.drop k).take X := by
    unfold pay1; rw [ht]; simp only; rw [List.drop_take]; congr 1; omega
  unfold rec1
  rw [hpay, ht]
  simp only
  rw [if_neg (by decide), if_neg (by simp), if_neg (by omega), if_pos]
  intro hw
  apply he
  have h8 := wide_back ((l.drop (k + X)).take 8) (by rw [List.length_take, List.length_drop]; omega) _ (hashN_lt _) hw
  unfold recB
  rw [hp, hsh, ← h8]
  have e1 : l.take (k + X + 8) = l.take k ++ ((l.drop k).take X ++ (l.drop (k + X)).take 8) := by
    rw [List.take_add, List.take_add, List.append_assoc]
  exact e1.symm

end Go.Proofs.Ytjbifbfhlmdlbaa

/- The walk of the document's reading of a short form: it answers the same function of the bytes as the program's. -/
namespace Go.Proofs.Ytjbifbfhlmdlbaa
open Go.RowKit

set_option maxHeartbeats 1000000 in
theorem number_any (a : Option Addr) (n cap : Nat) (l : List UInt8) (w : World) (hb : Bytes w a n l) (hm : n ≤ maxLen) :
    Calls Try.prog 27 #[.slice a n cap] w fun e w' => e = .returned (.tuple #[.int .u64 (num l).1, .int .i64 (num l).2.1, .int .i64 (num l).2.2]) ∧ w' = w := by
  unfold maxLen at hm
  obtain ⟨hl, hc⟩ := hb
  have HN : Hid (num l = numFrom l (n - 0) 0) := by show num l = _; unfold num; rw [hl]; rfl
  go_enter Try.func27, Try.ntmps27
  go_wp2
  go_loop [5, 6, 7] (fun x s i => ∃ k : Nat, k ≤ n ∧ k ≤ 9 ∧ i = .int .i64 k ∧ x = .int .u64 (accTo l k) ∧ s = .int .u64 (128 ^ k) ∧ Hid (num l = numFrom l (n - k) k)) (fun _ _ i => n - (intOf i).toNat)
  case atStart => exact ⟨0, Nat.zero_le _, by omega, rfl, rfl, rfl, HN⟩
  case round =>
    clear HN
    obtain ⟨k, hk, hk9, rfl, rfl, rfl, HN⟩ := hrel
    by_cases hlt : k < n
    · obtain ⟨b, off, rfl, hcell⟩ := hc (by omega)
      have hck := hcell k hlt
      have b0 := bt_lo l k
      have b1 := bt_hi l k
      have h0 := accTo_lo l k
      clear hcell hc hl
      have HS : Hid (accTo l k + bt l k % 128 * 128 ^ k = accTo l (k + 1)) := (accTo_succ l k).symm
      have HF : Hid (k ≤ 9 → (k = 9 → bt l k ≤ 1) → (0 ≤ bt l k % 128 * 128 ^ k ∧ bt l k % 128 * 128 ^ k ≤ 9223372036854775808) ∧ (0 ≤ accTo l k + bt l k % 128 * 128 ^ k ∧ accTo l k + bt l k % 128 * 128 ^ k ≤ 18446744073709551615)) :=
        fun h1 h2 => ⟨group_fits (bt l k) k b0 h1 h2, add_step l (bt l k) k b0 h1 h2⟩
      have NB : Hid (brokenB k (bt l k) = true → num l = (0, 0, 8)) := num_broken HN.out hlt
      have NL : Hid (brokenB k (bt l k) = false → bt l k < 128 → num l = (accTo l (k + 1), k + 1, 0)) := num_last HN.out hlt
      have NN : Hid (brokenB k (bt l k) = false → ¬ bt l k < 128 → num l = numFrom l (n - (k + 1)) (k + 1)) := num_next HN.out hlt
      have P8 : Hid (k ≤ 8 → (128 : Int) ^ k ≤ 72057594037927936) := pow128_8 k
      have P0 : (0 : Int) ≤ 128 ^ k := Int.pow_nonneg (by omega)
      have PS : Hid ((128 : Int) ^ k * 128 = 128 ^ (k + 1)) := (Int.pow_succ 128 k).symm
      clear HN
      generalize bt l k = c at *
      generalize hpw : (128 : Int) ^ k = P at *
      clear hpw
      by_cases h9 : k = 9
      · have k9 : ((k : Int) == 9) = true := by simp; omega
        have kp : 0 < k := by omega
        have H9 : Hid (k = 9) := h9
        clear h9
        by_cases hc1 : 1 < c
        · go_wp2
          go_ret3
          exact ⟨ret3_of (NB.out (by have := H9.out; simp [brokenB]; omega)) (by omega), rfl⟩
        · by_cases hz : c = 0
          · subst hz
            go_wp2
            go_ret3
            exact ⟨ret3_of (NB.out (by have := H9.out; simp [brokenB]; omega)) (by omega), rfl⟩
          · have cz : (c == 0) = false := by simpa using hz
            have h8 : c < 128 := by omega
            have F := HF.out hk9 (fun _ => by omega)
            have e1 : IntKind.u64.wrap (c % 128 * P) = c % 128 * P := wraps64 _ F.1.1 (by omega)
            have e2 : IntKind.u64.wrap (accTo l k + c % 128 * P) = accTo l k + c % 128 * P := wraps64 _ F.2.1 (by omega)
            clear F
            go_wp2
            go_ret3
            exact ⟨ret3_of (by rw [NL.out (by have := H9.out; simp [brokenB]; omega) h8, HS.out]; congr 2) (by omega), rfl⟩
      · have k9 : ((k : Int) == 9) = false := by simp; omega
        have F := HF.out (by omega) (fun _ => by omega)
        have e1 : IntKind.u64.wrap (c % 128 * P) = c % 128 * P := wraps64 _ F.1.1 (by omega)
        have e2 : IntKind.u64.wrap (accTo l k + c % 128 * P) = accTo l k + c % 128 * P := wraps64 _ F.2.1 (by omega)
        have p8 := P8.out (by omega)
        clear F
        by_cases hk0 : ¬ 0 < k
        · by_cases h8 : c < 128
          · go_wp2
            go_ret3
            exact ⟨ret3_of (by rw [NL.out (by simp [brokenB]; omega) h8, HS.out]; congr 2) (by omega), rfl⟩
          · go_wp2
            go_round
            case rel => exact ⟨k + 1, by omega, by omega, by go_num, by rw [HS.out], by rw [← PS.out], NN.out (by simp [brokenB]; omega) h8⟩
            case measure => simp [intOf]; omega
        · have kp : 0 < k := by omega
          by_cases hz : c = 0
          · subst hz
            go_wp2
            go_ret3
            exact ⟨ret3_of (NB.out (by simp [brokenB]; omega)) (by omega), rfl⟩
          · have cz : (c == 0) = false := by simpa using hz
            by_cases h8 : c < 128
            · go_wp2
              go_ret3
              exact ⟨ret3_of (by rw [NL.out (by simp [brokenB]; omega) h8, HS.out]; congr 2) (by omega), rfl⟩
            · go_wp2
              go_round
              case rel => exact ⟨k + 1, by omega, by omega, by go_num, by rw [HS.out], by rw [← PS.out], NN.out (by simp [brokenB]; omega) h8⟩
              case measure => simp [intOf]; omega
    · have NS := num_short HN.out hlt
      clear HN
      have NS' : Hid (num l = (0, 0, 110)) := NS
      clear NS
      go_wp2
      go_ret3
      exact ⟨ret3_of (by rw [NS'.out]; rfl) (by omega), rfl⟩
end Go.Proofs.Ytjbifbfhlmdlbaa

/- The walk of the document's own reading of a file: it tells what parseL says. -/
namespace Go.Proofs.Ytjbifbfhlmdlbaa
open Go.RowKit

/-- a block of three cells: a File -/
def Box3 (W : World) (g : Nat) (u0 u1 u2 : Value) : Prop := W.heap[g]? = some (.cells #[u0, u1, u2] 28 (0, 0))
theorem Box3.lt {W : World} {g : Nat} {u0 u1 u2 : Value} (h : Box3 W g u0 u1 u2) : g < W.heap.size := (Array.getElem?_eq_some_iff.1 h).1
theorem Box3.cell {W : World} {g : Nat} {u0 u1 u2 : Value} (h : Box3 W g u0 u1 u2) : W.cell? ⟨g, 0, none⟩ = some u0 ∧ W.cell? ⟨g, 1, none⟩ = some u1 ∧ W.cell? ⟨g, 2, none⟩ = some u2 := by
  simp [World.cell?, show W.heap[g]? = _ from h]
theorem Box3.frozen {W : World} {g : Nat} {u0 u1 u2 : Value} (h : Box3 W g u0 u1 u2) : W.frozen? ⟨g, 0, none⟩ = false ∧ W.frozen? ⟨g, 1, none⟩ = false ∧ W.frozen? ⟨g, 2, none⟩ = false := by
  simp [World.frozen?, show W.heap[g]? = _ from h]
theorem Box3.set0 {W : World} {g : Nat} {u0 u1 u2 : Value} (h : Box3 W g u0 u1 u2) (u : Value) : Box3 (W.setCell ⟨g, 0, none⟩ u) g u u1 u2 := by
  have h' : W.heap[g]? = _ := h
  simp [Box3, World.setCell, Array.getElem?_modify, h', Array.setIfInBounds]
theorem Box3.set1 {W : World} {g : Nat} {u0 u1 u2 : Value} (h : Box3 W g u0 u1 u2) (u : Value) : Box3 (W.setCell ⟨g, 1, none⟩ u) g u0 u u2 := by
  have h' : W.heap[g]? = _ := h
  simp [Box3, World.setCell, Array.getElem?_modify, h', Array.setIfInBounds]
theorem Box3.set2 {W : World} {g : Nat} {u0 u1 u2 : Value} (h : Box3 W g u0 u1 u2) (u : Value) : Box3 (W.setCell ⟨g, 2, none⟩ u) g u0 u1 u := by
  have h' : W.heap[g]? = _ := h
  simp [Box3, World.setCell, Array.getElem?_modify, h', Array.setIfInBounds]
theorem Box3.all {W : World} {g : Nat} {v0 v1 v2 : Value} (h : Box3 W g v0 v1 v2) (u0 u1 u2 : Value) : Box3 (((W.setCell ⟨g, 0, none⟩ u0).setCell ⟨g, 1, none⟩ u1).setCell ⟨g, 2, none⟩ u2) g u0 u1 u2 := ((h.set0 u0).set1 u1).set2 u2
theorem rd_ret {W : World} {p : Nat} {u0 u1 u2 : Value} {a : Act} {P : Ending → World → Prop} (hb : Box3 W p u0 u1 u2) (ha : a.tmps[2]?.getD undef = .pointer (some ⟨p, 0, none⟩)) (hd : a.defers = []) (hP : P (.returned (.agg #[u0, u1, u2])) W) : bodyPost Try.prog Try.f11 P Exit.ret a W := by
  obtain ⟨c0, c1, c2⟩ := hb.cell
  exact bodyPost_ret (v := .agg #[u0, u1, u2]) (by simp [results, Try.results11, go_sem, ha, c0, c1, c2]) hd hP
theorem Box3.other {W : World} {g k i : Nat} {u0 u1 u2 : Value} (h : Box3 W g u0 u1 u2) (hk : g ≠ k) (u : Value) : Box3 (W.setCell ⟨k, i, none⟩ u) g u0 u1 u2 :=
  (Below.heap_setCell _ _ _ _ hk).trans h

structure RdInv (B0 : Nat) (w wr : World) (p q : Nat) (v : Value) (ds : List (List UInt8)) (sz : Nat) (l : List UInt8) : Prop where
  b0 : B0 ≤ w.heap.size
  vlo : ∀ g, v.ownBlock = some g → w.heap.size ≤ g
  dn : Done B0 wr v ds
  vb : ∀ g, v.ownBlock = some g → g ≠ p ∧ g ≠ q
  pq : w.heap.size ≤ p ∧ w.heap.size ≤ q ∧ p ≠ q
  bel : Below w.heap.size w wr
  ps : parseL l = (ds ++ (parseL (l.drop sz)).1, sz + (parseL (l.drop sz)).2.1, (parseL (l.drop sz)).2.2)
  szl : sz ≤ l.length
  cnt : ds.length * 9 ≤ sz
  bp : Box3 wr p (.slice none 0 0) (.int .i64 0) (.bool false)
  bq : Box3 wr q v (.int .i64 (sz : Int)) (.bool false)

theorem RdInv.below {B0 : Nat} {w wr w' : World} {p q : Nat} {v : Value} {ds : List (List UInt8)} {sz : Nat} {l : List UInt8} (h : RdInv B0 w wr p q v ds sz l) (hB : Below wr.heap.size wr w') : RdInv B0 w w' p q v ds sz l :=
  { h with dn := h.dn.below hB, bel := h.bel.trans (hB.mono h.bel.size), bp := (hB.block _ h.bp.lt).trans h.bp, bq := (hB.block _ h.bq.lt).trans h.bq }

theorem RdInv.fin {B0 : Nat} {w wr w' : World} {p q : Nat} {va : Option Addr} {vn vc : Nat} {ds : List (List UInt8)} {sz : Nat} {l : List UInt8} (h : RdInv B0 w wr p q (.slice va vn vc) ds sz l) (hT : Turn (fun k => k = p ∨ k = q) wr w') (b : Bool) (hp : parseL (l.drop sz) = ([], 0, b)) :
    Done B0 w' (.slice va vn vc) (parseL l).1 ∧ (parseL l).2.1 = sz ∧ (parseL l).2.2 = b ∧ Below w.heap.size w w' := by
  have hd := h.dn.turn hT (fun k hk => by have := h.pq; have := h.b0; rcases hk with rfl | rfl <;> omega) (fun g hg e => by have := h.vb g hg; omega)
  have e : parseL l = (ds, sz, b) := by rw [h.ps, hp]; simp
  rw [e]
  exact ⟨hd, rfl, rfl, h.bel.trans (hT.below h.bel.size (fun k hk => by have := h.pq; rcases hk with rfl | rfl <;> omega))⟩

/-- one record more: its payload is in the list, its bytes are counted -/
theorem RdInv.step {B0 : Nat} {w wr w' : World} {p q : Nat} {v v' : Value} {ds : List (List UInt8)} {sz : Nat} {l : List UInt8} {X : Obj} {x : Option Addr} {m c k : Nat} {r : List UInt8} {xs : List Value} {z : Int} (h : RdInv B0 w wr p q v ds sz l)
    (h1 : rec1 (l.drop sz) = .one r k) (h0 : sz < l.length) (hb : Bytes w x m r) (hxb : 0 < m → ∀ y, x = some y → y.block < B0)
    (hxs : (wr.alloc X).ownsRow 0 22 1 v ds.length xs) (h3 : ∀ i, i < ds.length → ∃ x m c, xs[i]? = some (.slice x m c) ∧ Bytes (wr.alloc X) x m (rc ds i) ∧ (0 < m → ∀ y, x = some y → y.block < B0))
    (hown : w'.ownsRow 0 22 1 v' (ds.length + 1) (xs ++ [.slice x m c])) (hg : (wr.alloc X).grownBy w' v.ownBlock) (hat : v'.ownBlock = v.ownBlock ∨ v'.ownBlock = some (wr.alloc X).heap.size) (hz : z = ((sz + k : Nat) : Int)) :
    RdInv B0 w ((w'.setCell ⟨q, 0, none⟩ v').setCell ⟨q, 1, none⟩ (.int .i64 z)) p q v' (ds ++ [r]) (sz + k) l := by
  subst hz
  obtain ⟨_, _, hk1, hk2, _, _⟩ := rec1_one h1
  rw [List.length_drop] at hk1
  have hsw := h.bel.size
  have hsa : (wr.alloc X).heap.size = wr.heap.size + 1 := by simp
  have hqlt := h.bq.lt
  have hplt := h.bp.lt
  have hvlt := h.vlo
  have hb0 := h.b0
  have hbw : Below w.heap.size w (wr.alloc X) := h.bel.alloc hsw X
  have hT1 : Turn (fun k => v.ownBlock = some k) wr w' := (Turn.of_below _ ((Below.refl wr.heap.size wr).alloc (Nat.le_refl _) X)).trans (Turn.of_grownBy (Fp := fun k => v.ownBlock = some k) hg (fun k hk => .inl hk)) (fun _ _ h => h)
  have hd : Done B0 w' v' (ds ++ [r]) :=
    Done.push (B := B0) hxs (fun g hg => Nat.le_trans hb0 (hvlt g hg)) h3 ((Turn.of_below (fun _ => False) hbw).bytes hb (fun _ _ _ => id)) hxb (by omega) hown hg hat
  have hvlo' : ∀ g, v'.ownBlock = some g → w.heap.size ≤ g := fun g hg' => by
    rcases hat with e | e
    · exact hvlt g (by rw [← e]; exact hg')
    · rw [e] at hg'
      have : (wr.alloc X).heap.size = g := by simpa using hg'
      omega
  have hvb : ∀ g, v'.ownBlock = some g → g ≠ p ∧ g ≠ q := fun g hg' => by
    rcases hat with e | e
    · exact h.vb g (by rw [← e]; exact hg')
    · rw [e] at hg'
      have : (wr.alloc X).heap.size = g := by simpa using hg'
      omega
  have hTs : Turn (fun k => k = q) w' ((w'.setCell ⟨q, 0, none⟩ v').setCell ⟨q, 1, none⟩ (.int .i64 ((sz + k : Nat) : Int))) := (turn_setCell w' q 0 _).trans (turn_setCell _ q 1 _) (fun _ _ h => h)
  have hq' : Box3 w' q v (.int .i64 (sz : Int)) (.bool false) := (hT1.block q hqlt (fun e => (h.vb q e).2 rfl)).trans h.bq
  have hp' : Box3 w' p (.slice none 0 0) (.int .i64 0) (.bool false) := (hT1.block p hplt (fun e => (h.vb p e).1 rfl)).trans h.bp
  have hpo := parseL_one (l := l.drop sz) (fun e => by have := congrArg List.length e; simp at this; omega) h1
  refine { b0 := hb0, vlo := hvlo', dn := hd.turn hTs (fun k hk => by subst hk; exact Nat.le_trans hb0 h.pq.2.1) (fun g hg' e => (hvb g hg').2 e), vb := hvb, pq := h.pq, bel := ?_, ps := ?_, szl := by omega, cnt := ?_, bp := (hp'.other h.pq.2.2 _).other h.pq.2.2 _, bq := (hq'.set0 v').set1 _ }
  · exact (hbw.grown hg (by omega) hvlt).trans (hTs.below (by have := (hbw.grown hg (by omega) hvlt).size; omega) (fun k hk => by subst hk; exact h.pq.2.1))
  · rw [h.ps, hpo, List.drop_drop]
    simp only [List.append_assoc, List.singleton_append, Nat.add_assoc]
  · rw [List.length_append, List.length_singleton]
    have := h.cnt
    omega

/-- what the reading answers -/
def RdPost (B0 : Nat) (w : World) (l : List UInt8) (e : Ending) (w' : World) : Prop := ∃ va vn vc, e = .returned (.agg #[.slice va vn vc, .int .i64 ((parseL l).2.1 : Int), .bool (parseL l).2.2]) ∧ Done B0 w' (.slice va vn vc) (parseL l).1 ∧ (∀ g, (Value.slice va vn vc).ownBlock = some g → w.heap.size ≤ g) ∧ Below w.heap.size w w'

theorem RdInv.post {B0 : Nat} {w wr w' : World} {p q : Nat} {va : Option Addr} {vn vc : Nat} {ds : List (List UInt8)} {sz : Nat} {l : List UInt8} (h : RdInv B0 w wr p q (.slice va vn vc) ds sz l) (hT : Turn (fun k => k = p ∨ k = q) wr w') (b : Bool) (hp : parseL (l.drop sz) = ([], 0, b)) :
    RdPost B0 w l (.returned (.agg #[.slice va vn vc, .int .i64 (sz : Int), .bool b])) w' := by
  obtain ⟨h1, h3, h4, h5⟩ := h.fin hT b hp
  exact ⟨va, vn, vc, by rw [h3, h4], h1, h.vlo, h5⟩

theorem turn_p3 (W : World) (p q : Nat) (u0 u1 u2 : Value) : Turn (fun k => k = p ∨ k = q) W (((W.setCell ⟨p, 0, none⟩ u0).setCell ⟨p, 1, none⟩ u1).setCell ⟨p, 2, none⟩ u2) :=
  (((turn_setCell W p 0 u0).trans (turn_setCell _ p 1 u1) (fun _ _ h => h)).trans (turn_setCell _ p 2 u2) (fun _ _ h => h)).wide (fun _ h => .inl h)
theorem turn_q1 (W : World) (p q : Nat) (u : Value) : Turn (fun k => k = p ∨ k = q) W (W.setCell ⟨q, 2, none⟩ u) := (turn_setCell W q 2 u).wide (fun _ h => .inr h)

theorem RdInv.kept {B0 : Nat} {w wr w' : World} {p q : Nat} {v : Value} {ds : List (List UInt8)} {sz : Nat} {l : List UInt8} {X : Obj} (h : RdInv B0 w wr p q v ds sz l) (hg : (wr.alloc X).grownBy w' v.ownBlock) : Box3 w' q v (.int .i64 (sz : Int)) (.bool false) := by
  have hT1 : Turn (fun k => v.ownBlock = some k) wr w' := (Turn.of_below _ ((Below.refl wr.heap.size wr).alloc (Nat.le_refl _) X)).trans (Turn.of_grownBy (Fp := fun k => v.ownBlock = some k) hg (fun k hk => .inl hk)) (fun _ _ h => h)
  exact (hT1.block q h.bq.lt (fun e => (h.vb q e).2 rfl)).trans h.bq

theorem fwd' {w : World} {b off n : Nat} {l : List UInt8} (h : Bytes w (some ⟨b, off, none⟩) n l) (k : Nat) (hk : k ≤ n) : Bytes w (some ⟨b, off + k, none⟩) (n - k) (l.drop k) := by
  have := Bytes.sub h k n hk (Nat.le_refl _)
  rw [← h.1, List.take_length] at this
  rw [← h.1]
  exact this

/-- the size that a File has come to -/
def szAt (W : World) (q : Nat) : Nat := match W.cell? ⟨q, 1, none⟩ with | some (.int _ z) => z.toNat | _ => 0
theorem Box3.szAt {W : World} {g sz : Nat} {u0 u2 : Value} (h : Box3 W g u0 (.int .i64 (sz : Int)) u2) : szAt W g = sz := by
  unfold Proofs.Ytjbifbfhlmdlbaa.szAt; rw [h.cell.2.1]; simp

set_option maxRecDepth 100000 in
set_option maxHeartbeats 4000000 in
theorem refRead_any (B0 : Nat) (a : Option Addr) (n c : Nat) (l : List UInt8) (w : World) (hb : Bytes w a n l) (hc : n ≤ c) (hcm : c ≤ maxLen) (hn : n ≤ 4194304) (hB0 : B0 ≤ w.heap.size) (hab : 0 < n → ∀ y, a = some y → y.block < B0) :
    Calls Try.prog 11 #[.slice a n c] w (RdPost B0 w l) := by
  have hln := hb.1
  obtain ⟨i0, hi, hz0, hz1, hz2⟩ := info_parts Try.info22
  have hu := Try.underlying26
  go_enter Try.func11, Try.ntmps11
  go_wp2_with fail
  obtain ⟨w0, hw0⟩ : ∃ w0, w0 = (w.alloc (.cells #[.slice none 0 0, .int .i64 0, .bool false] 28)).alloc (.cells #[.slice none 0 0, .int .i64 0, .bool false] 28) := ⟨_, rfl⟩
  have H0 : Hid (RdInv B0 w w0 w.heap.size (w.heap.size + 1) (.slice none 0 0) [] 0 l) := by
    have hB1 : Below w.heap.size w (w.alloc (.cells #[.slice none 0 0, .int .i64 0, .bool false] 28)) := (Below.refl _ w).alloc (Nat.le_refl _) _
    have hB : Below w.heap.size w w0 := by rw [hw0]; exact hB1.alloc (by simp) _
    have b1 : Box3 (w.alloc (.cells #[.slice none 0 0, .int .i64 0, .bool false] 28)) w.heap.size (.slice none 0 0) (.int .i64 0) (.bool false) := World.alloc_heap_new w _
    have b2 : Box3 w0 (w.heap.size + 1) (.slice none 0 0) (.int .i64 0) (.bool false) := by
      have := World.alloc_heap_new (w.alloc (.cells #[.slice none 0 0, .int .i64 0, .bool false] 28)) (.cells #[.slice none 0 0, .int .i64 0, .bool false] 28)
      rw [World.size_alloc, ← hw0] at this
      exact this
    have b3 : Box3 w0 w.heap.size (.slice none 0 0) (.int .i64 0) (.bool false) := by
      have hB2 := (Below.refl (w.heap.size + 1) (w.alloc (.cells #[.slice none 0 0, .int .i64 0, .bool false] 28))).alloc (by simp) (.cells #[.slice none 0 0, .int .i64 0, .bool false] 28)
      rw [← hw0] at hB2
      exact (hB2.block _ (by omega)).trans b1
    exact { b0 := hB0, vlo := by simp [Value.ownBlock], dn := Done.nil _ _, vb := by simp [Value.ownBlock], pq := ⟨by omega, by omega, by omega⟩, bel := hB, ps := by simp, szl := by omega, cnt := by simp, bp := b3, bq := b2 }
  rw [← hw0]
  clear hw0
  obtain ⟨p, hp⟩ : ∃ p, p = w.heap.size := ⟨_, rfl⟩
  obtain ⟨q, hq⟩ : ∃ q, q = p + 1 := ⟨_, rfl⟩
  rw [← hp, ← hq] at H0 ⊢
  clear hp hq
  go_loopw [] (fun wr => ∃ (va : Option Addr) (vn vc : Nat) (ds : List (List UInt8)) (sz : Nat), Hid (RdInv B0 w wr p q (.slice va vn vc) ds sz l) ∧ Hid (vn = ds.length)) (fun wr => n - szAt wr q)
  case atStart => exact ⟨none, 0, 0, [], 0, H0, rfl⟩
  case round =>
    clear H0
    obtain ⟨va, vn, vc, ds, sz, H, HD⟩ := hrel
    have hszn : sz ≤ n := by rw [← hln]; exact H.out.szl
    obtain ⟨c0, c1, c2⟩ := H.out.bq.cell
    obtain ⟨f0, f1, f2⟩ := H.out.bq.frozen
    obtain ⟨p0, p1, p2⟩ := H.out.bp.cell
    obtain ⟨g0, g1, g2⟩ := H.out.bp.frozen
    have hpq := H.out.pq.2.2
    have Hsz : Hid (szAt wr q = sz) := H.out.bq.szAt
    have Hln : Hid (l.length = n) := hln
    have hm0 : n ≤ maxLen := Nat.le_trans hc hcm
    have hcm' : c ≤ 9223372036854775807 := by unfold maxLen at hcm; omega
    clear hln
    by_cases hlt : sz < n
    · have i1 : (sz : Int) < (n : Int) := by omega
      obtain ⟨b, off, rfl, _⟩ := hb.2 (by omega)
      have Hab : Hid (b < B0) := hab (by omega) _ rfl
      have hbr : Bytes wr (some ⟨b, off + sz, none⟩) (n - sz) (l.drop sz) := (Turn.of_below (fun _ => False) H.out.bel).bytes (fwd' hb sz hszn) (fun _ _ _ => id)
      have hx1 := number_any (some ⟨b, off + sz, none⟩) (n - sz) (c - sz) (l.drop sz) wr hbr (by omega)
      have i2 : (n : Int) ≤ (c : Int) := by omega
      have i3 : sz < c := by omega
      obtain ⟨x, k, e, hnum⟩ : ∃ x k e, num (l.drop sz) = (x, k, e) := ⟨_, _, _, rfl⟩
      have Hnum : Hid (num (l.drop sz) = (x, k, e)) := hnum
      rw [hnum] at hx1
      have hfits := num_fits (l.drop sz)
      have hle := num_le (l.drop sz)
      rw [hnum] at hfits hle
      rw [hbr.1] at hle
      simp only at hfits hle
      clear hnum
      go_wp2_with fail
      refine hx1.mono ?_
      clear hx1
      rintro e' w1 ⟨rfl, rfl⟩
      by_cases e110 : e = 110
      · subst e110
        have hp : Hid (parseL (l.drop sz) = ([], 0, false)) := parseL_short (rec1_a (by rw [Hnum.out]))
        go_wp2
        exact rd_ret (H.out.bp.all _ _ _) rfl rfl (H.out.post (turn_p3 _ _ _ _ _ _) false hp.out)
      · have hne : Hid (l.drop sz ≠ []) := fun e => by have h1 := congrArg List.length e; have h2 := Hln.out; rw [List.length_drop, List.length_nil] at h1; omega
        by_cases e0 : e = 0
        · subst e0
          by_cases hbig : 262144 < x
          · have hp : Hid (parseL (l.drop sz) = ([], 0, true)) := parseL_wrong hne.out (rec1_c (by rw [Hnum.out]) (by rw [Hnum.out]; exact hbig))
            go_wp2
            exact rd_ret ((H.out.bp.other hpq _).all _ _ _) rfl rfl (H.out.post ((turn_q1 _ p q _).trans (turn_p3 _ p q _ _ _) (fun _ _ h => h)) true hp.out)
          · obtain ⟨X, rfl⟩ : ∃ X : Nat, x = (X : Int) := ⟨x.toNat, by omega⟩
            have hX : X ≤ 262144 := by omega
            by_cases hs : n - sz - k < X + 8
            · have hp : Hid (parseL (l.drop sz) = ([], 0, false)) := parseL_short (rec1_d Hnum.out hX (by rw [List.length_drop, Hln.out]; exact hs))
              have i5 : (((n - sz : Nat) : Int) - (k : Int) < (X : Int) + 8) := by omega
              go_wp2
              exact rd_ret (H.out.bp.all _ _ _) rfl rfl (H.out.post (turn_p3 _ _ _ _ _ _) false hp.out)
            · have i5 : ¬ (((n - sz : Nat) : Int) - (k : Int) < (X : Int) + 8) := by omega
              have Hat := recB_at Hnum.out (by rw [List.length_drop, Hln.out]; omega)
              obtain ⟨r, hr⟩ : ∃ r, r = ((l.drop sz).drop k).take X := ⟨_, rfl⟩
              rw [← hr] at Hat
              obtain ⟨hrX, _, hrec, hkl, hk1⟩ := Hat
              have hbw : Bytes w (some ⟨b, off + sz + k, none⟩) X r := by rw [hr]; exact (fwd' (fwd' hb sz hszn) k (by omega)).take X (by omega)
              have Hbw : Hid (Bytes w (some ⟨b, off + sz + k, none⟩) X r) := hbw
              have hx2 := refRecord_any (some ⟨b, off + sz + k, none⟩) X (c - sz - k) r w1 ((Turn.of_below (fun _ => False) H.out.bel).bytes hbw (fun _ _ _ => id)) (by omega)
              obtain ⟨rn, hrn⟩ : ∃ rn, rn = k + X + 8 := ⟨_, rfl⟩
              rw [hrec, ← hrn] at hx2
              have Hr : Hid (r = ((l.drop sz).drop k).take X ∧ rn = k + X + 8) := ⟨hr, hrn⟩
              have j1 : k < c - sz := by omega
              have j2 : rn ≤ n - sz := by omega
              have j3 : (rn : Int) ≤ 4194304 := by omega
              clear hr hrn hrX hrec hkl hbw
              go_wp2_with fail
              refine hx2.mono ?_
              clear hx2
              rintro e' w2 ⟨br, rfl, hbr2, hB2, _⟩
              have H2 : Hid (RdInv B0 w w2 p q (.slice va vn vc) ds sz l) := H.out.below hB2
              have hbt : Bytes w2 (some ⟨b, off + sz, none⟩) rn ((l.drop sz).take rn) := ((Turn.of_below (fun _ => False) H2.out.bel).bytes (fwd' hb sz hszn) (fun _ _ _ => id)).take rn j2
              have r1 : ∀ t, (convert 22 9 (.slice (some ⟨br, 0, none⟩) rn rn)).run Try.prog (w2.drewN t) = .ok (.string ⟨(recB r).toArray⟩) (w2.drewN t) := fun t => run_string (w2.drewN t) _ rn rn _ (hbr2.drewN t)
              have r2 : ∀ t, (convert 22 9 (.slice (some ⟨b, off + sz, none⟩) rn (c - sz))).run Try.prog (w2.drewN t) = .ok (.string ⟨((l.drop sz).take rn).toArray⟩) (w2.drewN t) := fun t => run_string (w2.drewN t) _ rn _ _ (hbt.drewN t)
              obtain ⟨s1, hs1⟩ : ∃ s1 : ByteArray, s1 = ⟨(recB r).toArray⟩ := ⟨_, rfl⟩
              obtain ⟨s2, hs2⟩ : ∃ s2 : ByteArray, s2 = ⟨((l.drop sz).take rn).toArray⟩ := ⟨_, rfl⟩
              rw [← hs1] at r1
              rw [← hs2] at r2
              have Hs : Hid (s1 = ⟨(recB r).toArray⟩ ∧ s2 = ⟨((l.drop sz).take rn).toArray⟩) := ⟨hs1, hs2⟩
              have j4 : rn ≤ c - sz := by omega
              clear hs1 hs2 hbt hbr2 hB2 c0 c1 c2 f0 f1 f2 p0 p1 p2 g0 g1 g2
              go_wp2_with fail
              go_quiet (fail)
              have H3 : Hid (RdInv B0 w (w2.drewN nq) p q (.slice va vn vc) ds sz l) := by
                have hB := Below.refl w2.heap.size w2
                exact H2.out.below (w' := w2.drewN nq) ⟨hB.os, hB.tape, hB.output, hB.size, hB.block⟩
              generalize w2.drewN nq = w3 at *
              obtain ⟨c0, c1, c2⟩ := H3.out.bq.cell
              obtain ⟨f0, f1, f2⟩ := H3.out.bq.frozen
              obtain ⟨p0, p1, p2⟩ := H3.out.bp.cell
              obtain ⟨g0, g1, g2⟩ := H3.out.bp.frozen
              clear r1 r2 H H2
              by_cases hq : s1 = s2
              · have h1 : Hid (rec1 (l.drop sz) = .one r rn) := by
                  have := rec1_e Hnum.out hX (by rw [List.length_drop, Hln.out]; omega) (by
                    rw [← Hr.out.1, ← Hr.out.2]
                    have e1 := Hs.out.1
                    rw [hq, Hs.out.2] at e1
                    have e2 := congrArg (fun z : ByteArray => z.data.toList) e1
                    simpa using e2.symm)
                  rw [← Hr.out.1, ← Hr.out.2] at this
                  exact this
                obtain ⟨xs, hxs, hx2, hx3⟩ := H3.out.dn.below ((Below.refl _ _).alloc (Nat.le_refl _) (.cells #[.slice (some ⟨b, off + sz + k, none⟩) X (c - sz - k)] 22))
                have Hx3 : Hid (∀ i, i < ds.length → ∃ x' m' c', xs[i]? = some (.slice x' m' c') ∧ Bytes (w3.alloc (.cells #[.slice (some ⟨b, off + sz + k, none⟩) X (c - sz - k)] 22)) x' m' (rc ds i) ∧ (0 < m' → ∀ y, x' = some y → y.block < B0)) := hx3
                have hvs : vn ≤ 4194304 := by have := H3.out.cnt; have := HD.out; omega
                rw [← HD.out] at hxs
                subst hq
                have hcmp : (s1.toList == s1.toList) = true := by simp
                simp only [hcmp, Bool.not_true]
                clear hx2 hx3 hcmp
                go_wp2_with (at_builtin; refine wpList_push1 _ (by rfl) _ _ 26 22 i0 (.slice none 0 0) 24 rfl hu hi hz0 hz1 hz2 rfl (.slice va vn vc) vn xs rfl hxs w3.heap.size (.slice (some ⟨b, off + sz + k, none⟩) X (c - sz - k)) rfl (by simp) rfl (by unfold maxLen; omega) (by omega) ?_; intro v5 w5 hown5 hgr5 hat5; obtain ⟨a5, c5, rfl, hnc5, hnil5⟩ := ownsRow_shape' hown5; have hb5 := H3.out.kept hgr5; obtain ⟨k0, k1, k2⟩ := hb5.cell; obtain ⟨l0, l1, l2⟩ := hb5.frozen)
                have HS : Hid (∀ z : Int, z = ((sz + rn : Nat) : Int) → RdInv B0 w ((w5.setCell ⟨q, 0, none⟩ (.slice a5 (vn + 1) c5)).setCell ⟨q, 1, none⟩ (.int .i64 z)) p q (.slice a5 (vn + 1) c5) (ds ++ [r]) (sz + rn) l) := fun z hz => by
                  have hv : vn = ds.length := HD.out
                  subst hv
                  exact H3.out.step h1.out (by rw [Hln.out]; exact hlt) Hbw.out (fun _ y hy => by cases hy; exact Hab.out) hxs Hx3.out hown5 hgr5 hat5 hz
                clear hown5 hgr5 hat5 hxs
                go_roundw
                case rel => exact ⟨a5, vn + 1, c5, ds ++ [r], sz + rn, HS.out _ (by go_num), by show vn + 1 = (ds ++ [r]).length; rw [List.length_append, HD.out]; rfl⟩
                case measure =>
                  rw [(HS.out _ (by go_num)).bq.szAt, Hsz.out]
                  have := Hr.out.2
                  omega
              · have hp : Hid (parseL (l.drop sz) = ([], 0, true)) := parseL_wrong hne.out (rec1_f Hnum.out hX (by rw [List.length_drop, Hln.out]; omega) (fun e => hq (by
                  rw [← Hr.out.1, ← Hr.out.2] at e
                  rw [Hs.out.1, Hs.out.2, e])))
                have hcmp : (s1.toList == s2.toList) = false := by
                  rw [ByteArray.toList_eq, ByteArray.toList_eq, Bool.eq_false_iff]
                  intro e
                  rw [beq_iff_eq] at e
                  exact hq (by cases s1 with | mk d1 => cases s2 with | mk d2 => exact congrArg ByteArray.mk (Array.toList_inj.1 e))
                simp only [hcmp, Bool.not_false]
                clear hcmp
                go_wp2
                exact rd_ret ((H3.out.bp.other hpq _).all _ _ _) rfl rfl (H3.out.post ((turn_q1 _ p q _).trans (turn_p3 _ p q _ _ _) (fun _ _ h => h)) true hp.out)
        · have hp : Hid (parseL (l.drop sz) = ([], 0, true)) := parseL_wrong hne.out (rec1_b (by rw [Hnum.out]; exact e110) (by rw [Hnum.out]; exact e0))
          go_wp2
          exact rd_ret ((H.out.bp.other hpq _).all _ _ _) rfl rfl (H.out.post ((turn_q1 _ p q _).trans (turn_p3 _ p q _ _ _) (fun _ _ h => h)) true hp.out)
    · have hp : Hid (parseL (l.drop sz) = ([], 0, false)) := by
        show _ = _
        rw [List.drop_eq_nil_of_le (by have := Hln.out; omega), parseL_nil]
      have i1 : ¬ (sz : Int) < (n : Int) := by omega
      go_wp2
      exact rd_ret (H.out.bp.all _ _ _) rfl rfl (H.out.post (turn_p3 _ _ _ _ _ _) false hp.out)

end Go.Proofs.Ytjbifbfhlmdlbaa

/- The walk of the law JournalOpens. -/
namespace Go.Proofs.Ytjbifbfhlmdlbaa
open Go.RowKit

/-- a disk with one file of these bytes -/
def D1 (l : List UInt8) : DG := DG.add { f := fun _ => none, n := 0, wr := 0 + (if l = [] then 1 else (l.length + 31) / 32), cut := false, left := 0 } fNm.data.toList l
theorem D1_app (l : List UInt8) (hl : l.length ≤ 4194304) : DG.app ⟨fun _ => none, 0, 0, false, 0⟩ fNm.data.toList l = (D1 l, 0) := by
  unfold DG.app
  rw [if_neg (by decide), if_neg (by simp [DG.bs]; omega), if_neg (by simp), pieces_free _ _ _ _ rfl (Nat.le_refl _)]
  rfl
theorem D1_f (l : List UInt8) : (D1 l).f fNm.data.toList = some l := by
  unfold D1 DG.add DG.set; simp
theorem D1_bs (l : List UInt8) : (D1 l).bs fNm.data.toList = l := by unfold DG.bs; rw [D1_f]; rfl
theorem D1_n (l : List UInt8) : (D1 l).n = 1 := by unfold D1 DG.add DG.set; simp
theorem D1_cut (l : List UInt8) : (D1 l).cut = false := rfl
theorem D1_wr (l : List UInt8) : (D1 l).wr ≤ l.length + 1 := by
  show 0 + (if l = [] then 1 else (l.length + 31) / 32) ≤ _
  split
  · omega
  · rename_i h
    have : 0 < l.length := List.length_pos_iff.2 h
    omega
theorem D1_wrong (l : List UInt8) (h : (parseL l).2.2 = true) : (D1 l).opened fNm.data.toList = (D1 l, 8) := by
  unfold DG.opened; rw [D1_bs, if_pos h]
theorem D1_right (l : List UInt8) (h : (parseL l).2.2 = false) : ((D1 l).opened fNm.data.toList).2 = 0 ∧ ((D1 l).opened fNm.data.toList).1.bs fNm.data.toList = l.take (parseL l).2.1 ∧ ((D1 l).opened fNm.data.toList).1.err fNm.data.toList = 0 := by
  have hle := parseL_len l
  unfold DG.opened
  rw [D1_bs, if_neg (by rw [h]; decide)]
  split
  · rename_i hlt
    rw [trunc_err (D1 l) _ _ (by rw [D1_bs]; omega) (by rw [D1_bs]; exact hlt), if_pos (by rfl), D1_bs]
    refine ⟨rfl, ?_, ?_⟩
    · unfold DG.bs DG.set; simp
    · unfold DG.err DG.set; simp
  · rename_i hlt
    refine ⟨rfl, ?_, ?_⟩
    · show (D1 l).bs _ = _
      rw [D1_bs, List.take_of_length_le (by omega)]
    · show (D1 l).err _ = _
      unfold DG.err; rw [D1_f]; rfl

set_option maxHeartbeats 1000000 in
theorem on_any (a : Option Addr) (n c : Nat) (l : List UInt8) (w : World) (hb : Bytes w a n l) (hc : n ≤ c) (hnil : a = none → n = 0 ∧ c = 0) (hn : n ≤ 4194304) :
    Calls Try.prog 10 #[.string fNm, .slice a n c] w fun e w' => ∃ d G, e = .returned (.pointer (some ⟨d, 0, none⟩)) ∧ IsDisk w' d (D1 l) G ∧ (∀ k, G k → w.heap.size ≤ k) ∧ Below w.heap.size w w' := by
  go_enter Try.func10, Try.ntmps10
  go_wp2_with fail
  refine (new_any w).mono ?_
  rintro e w1 ⟨rfl, hd1, B1⟩
  have hlen := hb.1
  have hb1 : Bytes w1 a n l := (Turn.of_below (fun _ => False) B1).bytes hb (fun _ _ _ => id)
  have hx := append_any _ _ _ w1 fNm a n c l hd1 (by decide) hb1 hc hnil (fun h0 x hx => by
    obtain ⟨b, off, e, hcell⟩ := hb.2 h0
    rw [hx] at e; cases e
    have hlt := World.block_lt_of_cell? w _ (hcell 0 h0)
    have := B1.size
    simp only at hlt ⊢
    omega) (by simp [DG.bs]) (by simp) (by simp) (by omega)
  rw [D1_app l (by omega)] at hx
  clear hd1 hb1
  go_wp2_with fail
  refine hx.mono ?_
  clear hx
  rintro e w2 ⟨rfl, hd2, hT2⟩
  have B2 : Below w.heap.size w w2 := B1.trans (hT2.below B1.size (by rintro k (rfl | rfl) <;> omega))
  have G2 : ∀ k, grow (fun k => k = w.heap.size ∨ k = w.heap.size + 1) w1 w2 k → w.heap.size ≤ k := fun k hk => hk.elim (fun h => by omega) (fun h => by have := B1.size; omega)
  clear hT2 B1
  go_wp2
  go_ret
  exact ⟨_, _, rfl, hd2, G2, B2⟩

set_option maxRecDepth 100000 in
set_option maxHeartbeats 4000000 in
theorem journalOpens_walk (a : Option Addr) (n c : Nat) (l : List UInt8) (w : World) (hb : Bytes w a n l) (hc : n ≤ c) (hcm : c ≤ maxLen) (hnil : a = none → n = 0 ∧ c = 0) : Calls Try.prog 3 #[.slice a n c] w fun e w' => e = .returned (.bool true) ∧ Below w.heap.size w w' := by
  have hn' : n ≤ 9223372036854775807 := by unfold maxLen at hcm; omega
  go_enter Try.func3, Try.ntmps3
  go_wp2_with fail
  refine (jwakes_any _).mono ?_
  rintro e w1 ⟨rfl, B1⟩
  by_cases hbig : 4194304 < n
  · have i1 : (4194304 : Int) < (n : Int) := by omega
    go_wp2_with fail
    refine (jwakes_any _).mono ?_
    rintro e w2 ⟨rfl, B2⟩
    go_wp2
    go_ret
    exact ⟨by simp, B1.trans (B2.mono B1.size)⟩
  · have i1 : ¬ (4194304 : Int) < (n : Int) := by omega
    go_wp2_with fail
    refine (jwakes_any _).mono ?_
    rintro e w2 ⟨rfl, B2⟩
    have BB2 : Below w.heap.size w w2 := B1.trans (B2.mono B1.size)
    clear B1 B2
    have hx3 := on_any a n c l w2 ((Turn.of_below (fun _ => False) BB2).bytes hb (fun _ _ _ => id)) hc hnil (by omega)
    go_wp2_with fail
    refine hx3.mono ?_
    clear hx3
    rintro e w3 ⟨d, G, rfl, hd3, hG3, B3⟩
    have HB3 : Hid (Below w.heap.size w w3) := BB2.trans (B3.mono BB2.size)
    have HD3 : Hid (IsDisk w3 d (D1 l) G ∧ ∀ k, G k → w.heap.size ≤ k) := ⟨hd3, fun k hk => by have := hG3 k hk; have := BB2.size; omega⟩
    clear hd3 hG3 B3 BB2
    have hx4 := refRead_any w.heap.size a n c l w3 ((Turn.of_below (fun _ => False) HB3.out).bytes hb (fun _ _ _ => id)) hc hcm (by omega) HB3.out.size (fun h0 y hy => by
      obtain ⟨b, off, e, hcell⟩ := hb.2 h0
      rw [hy] at e; cases e
      exact World.block_lt_of_cell? w _ (hcell 0 h0))
    obtain ⟨rs, sz, wrong, hps⟩ : ∃ rs sz wrong, parseL l = (rs, sz, wrong) := ⟨_, _, _, rfl⟩
    have Hps : Hid (parseL l = (rs, sz, wrong)) := hps
    have hsz : sz ≤ n := by have := parseL_len l; rw [hps, hb.1] at this; exact this
    have hx4' : Calls Try.prog 11 #[.slice a n c] w3 fun e w' => ∃ va vn vc, e = .returned (.agg #[.slice va vn vc, .int .i64 (sz : Int), .bool wrong]) ∧ Done w.heap.size w' (.slice va vn vc) rs ∧ (∀ g, (Value.slice va vn vc).ownBlock = some g → w3.heap.size ≤ g) ∧ Below w3.heap.size w3 w' := by
      refine hx4.mono ?_
      rintro e w' ⟨va, vn, vc, he, h1, h2, h3⟩
      rw [hps] at he h1
      exact ⟨va, vn, vc, he, h1, h2, h3⟩
    clear hx4 hps
    go_wp2_with fail
    refine hx4'.mono ?_
    clear hx4'
    rintro e w4 ⟨va, vn, vc, rfl, hsl, hvn, B4⟩
    have HB4 : Hid (Below w.heap.size w w4) := HB3.out.trans (B4.mono HB3.out.size)
    have HD4 : Hid (IsDisk w4 d (D1 l) G ∧ ∀ k, G k → w.heap.size ≤ k) := ⟨HD3.out.1.below B4, HD3.out.2⟩
    have HS4 : Hid (Done w.heap.size w4 (.slice va vn vc) rs ∧ ∀ g, (Value.slice va vn vc).ownBlock = some g → ¬ G g) := ⟨hsl, fun g hg h => by have := hvn g hg; have := HD3.out.1.lt g h; omega⟩
    clear HB3 HD3 hsl hvn B4
    obtain ⟨w5, hw5⟩ : ∃ w5, w5 = w4.alloc (.cells #[.slice va vn vc, .int .i64 (sz : Int), .bool wrong] 28) := ⟨_, rfl⟩
    obtain ⟨B, hBd⟩ : ∃ B, B = w4.heap.size := ⟨_, rfl⟩
    have hBa : Below w4.heap.size w4 w5 := by rw [hw5]; exact (Below.refl _ w4).alloc (Nat.le_refl _) _
    have HX5 : Hid (Box3 w5 B (.slice va vn vc) (.int .i64 (sz : Int)) (.bool wrong) ∧ w.heap.size ≤ B) := ⟨by rw [hw5, hBd]; exact World.alloc_heap_new w4 _, by rw [hBd]; exact HB4.out.size⟩
    have HB5 : Hid (Below w.heap.size w w5) := HB4.out.trans (hBa.mono HB4.out.size)
    have HD5 : Hid (IsDisk w5 d (D1 l) G ∧ (∀ k, G k → w.heap.size ≤ k) ∧ ¬ G B) := ⟨HD4.out.1.below hBa, HD4.out.2, fun h => by have := HD4.out.1.lt B h; omega⟩
    have HS5 : Hid (Done w.heap.size w5 (.slice va vn vc) rs ∧ ∀ g, (Value.slice va vn vc).ownBlock = some g → ¬ G g) := ⟨HS4.out.1.below hBa, HS4.out.2⟩
    have HB4' : Hid (Below w4.heap.size w4 w5 ∧ IsDisk w4 d (D1 l) G) := ⟨hBa, HD4.out.1⟩
    have hx6 := jopen_any w5 d (D1 l) G fNm HD5.out.1 (by decide) (by rw [D1_bs, hb.1]; omega) (by have := D1_wr l; have := hb.1; omega) (by rw [D1_n]; unfold maxLen; omega)
    go_wp2_with fail
    rw [← hw5, ← hBd]
    clear hw5 hBd HB4 HD4 HS4 hBa
    refine hx6.mono ?_
    clear hx6
    rintro e w6 ⟨hT6, G6, hd6, hG6, hcase⟩
    have HB6 : Hid (Below w.heap.size w w6) := HB5.out.trans (hT6.below HB5.out.size HD5.out.2.1)
    have HX6 : Hid (Box3 w6 B (.slice va vn vc) (.int .i64 (sz : Int)) (.bool wrong)) := (hT6.block B HX5.out.1.lt HD5.out.2.2).trans HX5.out.1
    cases wrong with
    | true =>
      have hop := D1_wrong l (by rw [Hps.out])
      rw [hop] at hd6 hcase
      rcases hcase with ⟨_, rfl⟩ | ⟨h0, _⟩
      · have hx7 := read_any d _ G6 w6 fNm hd6 (by decide) (by rw [D1_bs, hb.1]; omega)
        have herr : (D1 l).err fNm.data.toList = 0 := by unfold DG.err; rw [D1_f]; rfl
        rw [D1_bs, herr, hb.1] at hx7
        have Hb : Hid (Bytes w a n l) := hb
        clear hd6 hG6 hT6 hop herr hb
        go_wp2_with fail
        refine hx7.mono ?_
        clear hx7
        rintro e w7 ⟨a7, c7, rfl, hown7, hB7, _⟩
        have HB7 : Hid (Below w.heap.size w w7) := HB6.out.trans (hB7.mono HB6.out.size)
        have r1 := run_string w7 a7 n c7 l (ownsRow_toBytes hown7).1
        have r2 := run_string w7 a n c l ((Turn.of_below (fun _ => False) HB7.out).bytes Hb.out (fun _ _ _ => id))
        obtain ⟨k0, k1, k2⟩ := Box3.cell ((hB7.block _ HX6.out.lt).trans HX6.out)
        obtain ⟨s1, hs1⟩ : ∃ s1 : ByteArray, s1 = ⟨l.toArray⟩ := ⟨_, rfl⟩
        rw [← hs1] at r1 r2
        clear hs1 hown7 hB7
        go_wp2
        go_ret
        exact ⟨by simp, HB7.out⟩
      · exact absurd h0 (by simp)
    | false =>
      obtain ⟨o1, o2, o3⟩ := D1_right l (by rw [Hps.out])
      rw [Hps.out] at o2
      simp only at o2
      rcases hcase with ⟨h0, _⟩ | ⟨_, j, F, rfl, hJ6, hF6, hFG6⟩
      · exact absurd o1 h0
      · rw [D1_bs, Hps.out] at hJ6
        simp only at hJ6
        have htl : (l.take sz).length = sz := by rw [List.length_take, hb.1]; omega
        have hx7 := read_any d _ G6 w6 fNm hd6 (by decide) (by rw [o2, htl]; omega)
        rw [o2, o3, htl] at hx7
        have hS6 := HS5.out.1.turn hT6 HD5.out.2.1 HS5.out.2
        have Hb : Hid (Bytes w a n l) := hb
        have HJ6 : Hid (JAt w6 j d fNm rs sz false F ∧ Done w.heap.size w6 (.slice va vn vc) rs) := ⟨hJ6, hS6⟩
        clear hd6 hG6 hT6 o1 o2 o3 hb hJ6 hS6 hF6 hFG6 HS5 HD5 HX5 HB5 HB4' htl
        go_wp2_with fail
        refine hx7.mono ?_
        clear hx7
        rintro e w7 ⟨a7, c7, rfl, hown7, hB7, _⟩
        have HB7 : Hid (Below w.heap.size w w7) := HB6.out.trans (hB7.mono HB6.out.size)
        have hJ7 := HJ6.out.1.below hB7
        have hS7 := HJ6.out.2.below hB7
        have hbl := (ownsRow_toBytes hown7).1
        have hbb : Bytes w7 a sz (l.take sz) := ((Turn.of_below (fun _ => False) HB7.out).bytes Hb.out (fun _ _ _ => id)).take sz hsz
        have hX7 : Box3 w7 B (.slice va vn vc) (.int .i64 (sz : Int)) (.bool false) := (hB7.block _ HX6.out.lt).trans HX6.out
        have hBd7 : Below w7.heap.size w7 w7.drew := by
          have hB := Below.refl w7.heap.size w7
          exact ⟨hB.os, hB.tape, hB.output, hB.size, hB.block⟩
        obtain ⟨w8, hw8⟩ : ∃ w8, w8 = w7.drew := ⟨_, rfl⟩
        have hJ8 : JAt w8 j d fNm rs sz false F := by rw [hw8]; exact hJ7.below hBd7
        have hS8 : Done w.heap.size w8 (.slice va vn vc) rs := by rw [hw8]; exact hS7.below hBd7
        have hX8 : Box3 w8 B (.slice va vn vc) (.int .i64 (sz : Int)) (.bool false) := by rw [hw8]; exact hX7
        have hb8 : Bytes w8 a7 sz (l.take sz) ∧ Bytes w8 a sz (l.take sz) := by rw [hw8]; exact ⟨(Turn.of_below (fun _ => False) hBd7).bytes hbl (fun _ _ _ => id), (Turn.of_below (fun _ => False) hBd7).bytes hbb (fun _ _ _ => id)⟩
        have HB8 : Hid (Below w.heap.size w w8) := by show Below _ _ _; rw [hw8]; exact HB7.out.trans (hBd7.mono HB7.out.size)
        obtain ⟨s1, hs1⟩ : ∃ s1 : ByteArray, s1 = ⟨(l.take sz).toArray⟩ := ⟨_, rfl⟩
        have hfacts : ∀ W, Below w8.heap.size w8 W → W.cell? ⟨B, 0, none⟩ = some (.slice va vn vc) ∧ W.cell? ⟨B, 1, none⟩ = some (.int .i64 (sz : Int)) ∧ Sem.run Try.prog (convert 22 9 (.slice a7 sz c7)) W = .ok (.string s1) W ∧ Sem.run Try.prog (convert 22 9 (.slice a sz c)) W = .ok (.string s1) W := fun W hBW => by
          have hX := Box3.cell ((hBW.block _ hX8.lt).trans hX8)
          rw [hs1]
          exact ⟨hX.1, hX.2.1, run_string W a7 sz c7 _ ((Turn.of_below (fun _ => False) hBW).bytes hb8.1 (fun _ _ _ => id)), run_string W a sz c _ ((Turn.of_below (fun _ => False) hBW).bytes hb8.2 (fun _ _ _ => id))⟩
        have hx8 := jsize_any w8 j _ fNm rs sz false F hJ8
        have hx9 : Calls Try.prog 15 #[.pointer (some ⟨j, 0, none⟩), .slice va vn vc] w8 fun e w' => e = .returned (.bool true) ∧ Below w8.heap.size w8 w' := by
          obtain ⟨h1, h2⟩ := hS8.slices
          rw [h2] at h1 ⊢
          exact holds_any w8 j _ fNm rs _ false F hJ8 va vc h1
        have hk0 := hfacts w8 (Below.refl _ _)
        have HF : Hid (∀ W, Below w8.heap.size w8 W → W.cell? ⟨B, 0, none⟩ = some (.slice va vn vc) ∧ W.cell? ⟨B, 1, none⟩ = some (.int .i64 (sz : Int)) ∧ Sem.run Try.prog (convert 22 9 (.slice a7 sz c7)) W = .ok (.string s1) W ∧ Sem.run Try.prog (convert 22 9 (.slice a sz c)) W = .ok (.string s1) W) := hfacts
        obtain ⟨x0, x1, x2⟩ := hX7.cell
        have i5 : (sz : Int) ≤ (c : Int) := by omega
        clear hfacts hs1 hown7 hB7 hJ7 hS7 hbl hbb hX7 hBd7 hJ8 hS8 hX8 hb8 HJ6 HX6 HB6 HB7 Hb
        go_wp2_with fail
        rw [hw8] at hx8 hx9
        go_region_held3 (fun W => W.cell? ⟨B, 0, none⟩ = some (.slice va vn vc) ∧ W.cell? ⟨B, 1, none⟩ = some (.int .i64 (sz : Int)) ∧ Sem.run Try.prog (convert 22 9 (.slice a7 sz c7)) W = .ok (.string s1) W ∧ Sem.run Try.prog (convert 22 9 (.slice a sz c)) W = .ok (.string s1) W)
          (first | assumption | (rw [← hw8]; exact hk0) | exact HF.out _ hB9)
          (first | (go_at_call 14; refine hx8.mono ?_; rintro e w' ⟨rfl, rfl⟩) | (go_at_call 15; refine hx9.mono ?_; rw [← hw8]; rintro e w9 ⟨rfl, hB9⟩))
        go_wp2
        go_ret
        exact ⟨by simp, HB8.out.trans (hB9.mono HB8.out.size)⟩

end Go.Proofs.Ytjbifbfhlmdlbaa

/- Proved here: for all bytes the law JournalOpens returns true, and its argument reads as before. No condition. -/
namespace Go.Proofs.Ytjbifbfhlmdlbaa
open Go.RowKit
open Go.ChangeShapes Go.WideShapes Go.ChangeAt

theorem own : ownKnob Try.prog.godebug = none := by kernel_rfl
theorem bytes_cap {H : Type} {enc : TypeId × Value → H} {W : World} {fuel : Nat} {a : Option Addr} {n cap : Nat} {x : DataW H × List MemPlace} (hf : DataW.trod enc Try.prog W 0 (fun _ => true) true fuel 22 [.slice a n cap] = some x) : cap ≤ maxLen := by
  rcases open_ints Try.underlying22 Try.underlying5 (by kernel_rfl) hf with ⟨hcs, _⟩ | ⟨x, n, cap, zs, hcs, _, hl, hm, _⟩
  · simp only [List.cons.injEq, and_true, Value.slice.injEq] at hcs
    rw [hcs.2.2]; exact Nat.zero_le _
  · simp only [List.cons.injEq, and_true, Value.slice.injEq] at hcs
    rw [hcs.2.2]; exact hm

theorem laidOut : laidOutB Try.prog = true := by kernel_rfl

set_option maxRecDepth 100000 in
theorem journalOpens_lifted (os : Os) (started : os.Started) (H : Type) (enc : TypeId × Value → H) :
    ReturnsInHanded {} Try.checked os 3 .any (Rows.journalOpensSpec.pre6 enc Try.prog Try.f3 Rows.journalOpensRow.domain false) (Rows.journalOpensSpec.post enc Try.prog Try.f3 false true false false) := by
  refine returnsInHanded_of_change_sized (C := Try.checked) own started (by kernel_rfl) Try.func3
    (ChangeSpec.witness6 (enc := enc) (C := Try.checked) false ⟨#[], #[.slice none 0 0], []⟩ 8 (by kernel_rfl) (by kernel_rfl) (by kernel_rfl) (by kernel_rfl)) ?_
  intro W base args ds gs before hval0 hW _ hsz0 _
  have hsz : (DataW.weightsEach Try.prog (Try.f3.params.toList ++ Rows.journalOpensSpec.plain.varTypes Try.prog) (ds ++ gs)).all (· ≤ reachBytes) = true := hsz0
  have hval : ∀ (j : Nat) t v, Try.f3.params[j]? = some t → args[j]? = some v → Value.okWide Try.prog W .any base t v := hval0
  have hW' := hW
  obtain ⟨p, q, hA0, hV, rfl, _, _⟩ := hW
  have hA : DataW.TrodAll enc Try.prog W 0 (fun _ => true) true Try.f3.params.toList args.toList ds p := hA0
  rw [Try.params3] at hA hval hsz
  obtain ⟨v0, vs0, d0, ds0, p0, q0, hargs, rfl, rfl, h0, r0⟩ := trodAll_cons hA
  obtain ⟨rfl, rfl, rfl⟩ := trodAll_nil r0
  obtain rfl : args = #[v0] := by cases args; simp_all
  obtain ⟨rfl, rfl⟩ := trodVars_none hV
  have k0 := h0
  have lt0 : ∀ x ∈ p0, x.block < W.heap.size := by obtain ⟨m, hm⟩ := k0; exact DataW.trod_lt m _ _ _ hm
  obtain ⟨a0, n0, cap0, rfl⟩ := okWide_slice Try.underlying22 (hval 0 22 v0 rfl rfl)
  obtain ⟨fuel0, hf0⟩ := k0
  have hcap := bytes_cap hf0
  obtain ⟨a1, n1, cap1, l1, he1, hb1, hc1, hnil1, hn1⟩ := bytes_cell hf0
  simp only [Value.slice.injEq] at he1
  obtain ⟨rfl, rfl, rfl⟩ := he1
  clear hA0 hval0 hsz0 hsz
  refine (journalOpens_walk a0 n0 cap0 l1 W hb1 hc1 hcap hnil1).mono fun e W' ⟨he, bel⟩ => ?_
  subst he
  exact ⟨_, rfl, _, _, _, [], _, [], hW', trodAll_mk1 (shut_bool Try.underlying4 _), trodAll_cons_mk (Below.trod laidOut (by kernel_rfl) (of_decide_eq_true (by kernel_rfl)) h0 bel lt0) trodAll_mk0, rfl, bel.frame _, fun h => by cases h⟩

theorem journalOpens_holds : Rows.JournalOpensSaid :=
  OpenClaim.holds_of_wide 3 Try.f3 rfl rfl rfl rfl rfl rfl rfl ⟨rfl, rfl, rfl, rfl, rfl⟩ rfl rfl rfl rfl rfl (by kernel_rfl) Try.func3 (by kernel_rfl)
    (of_decide_eq_true (by kernel_rfl)) (by unfold Func.isWrapper; first | (rw [if_pos (by decide +kernel)]; kernel_rfl) | (rw [if_neg (by decide +kernel)]; exact ⟨rfl, rfl⟩))
    (fun os started H enc _ => journalOpens_lifted os started H enc)
#print axioms journalOpens_holds

end Go.Proofs.Ytjbifbfhlmdlbaa
