import Derived.Test.YtdjodigimhgklaaGreatDoorMD15
import Derived.WalkMore
import Derived.Test.YtdjodigimhgklaaGreatDoorMD09
import Derived.Test.YtdjodigimhgklaaGreatDoorMD03
import Derived.Laws.AppendOwnNone
import Derived.Maps.AppendAt
import Derived.Lib.AppendStr
import Derived.RangeFuncBox
import Derived.Sort.OwnSorted
/- Of which memo, and which run, is a file's name? -/
namespace Go.Proofs.YtdjodigimhgklaaGreatDoor
open Go.RowKit Go.Shelf

attribute [local go_sem] Oper.semAt_some

instance (l : List UInt8) : Decidable (hexOK l) := by unfold hexOK; infer_instance
/-- may that byte stand there behind a key? -/
def okAt (r : List UInt8) (k : Nat) : Bool := if k = 0 then decide (bt r 0 = 45) && decide (1 < r.length) else decide (48 ≤ bt r k) && decide (bt r k ≤ 57) && !(decide (k = 1) && decide (bt r k = 48))
/-- the number that the first bytes make -/
def numTo (r : List UInt8) : Nat → Nat
  | 0 => 0
  | k + 1 => if k = 0 then 0 else numTo r k * 10 + ((bt r k).toNat - 48)
def okTill (r : List UInt8) (k : Nat) : Bool := (List.range k).all fun j => okAt r j
theorem okTill_succ (r : List UInt8) (k : Nat) : okTill r (k + 1) = (okTill r k && okAt r k) := by simp [okTill, List.range_succ]
theorem okTill_le (r : List UInt8) (k n : Nat) (h : okTill r n = true) (hk : k ≤ n) : okTill r k = true := by
  simp only [okTill, List.all_eq_true, List.mem_range] at h ⊢
  exact fun j hj => h j (by omega)
/-- which memo's, and which run's, a name is; (0, 0): none's -/
def whoP (l : List UInt8) : Nat × Nat :=
  if l.length < 21 ∨ l.take 5 ≠ [109, 101, 109, 111, 45] ∨ ¬ hexOK ((l.drop 5).take 16) then (0, 0)
  else if okTill (l.drop 21) (l.drop 21).length = true then ((unhexTo ((l.drop 5).take 16) 16).toNat, numTo (l.drop 21) (l.drop 21).length) else (0, 0)
theorem ext_list (s : ByteArray) (a b : Nat) : (s.extract a b).data.toList = (s.data.toList.drop a).take (b - a) := by
  rw [ByteArray.data_extract, Array.toList_extract, List.extract_eq_take_drop]
theorem numTo_lt (r : List UInt8) : ∀ k, okTill r k = true → k ≤ 12 → numTo r k < 10 ^ k
  | 0, _, _ => by simp [numTo]
  | k + 1, h, hk => by
    rw [okTill_succ, Bool.and_eq_true] at h
    have ih := numTo_lt r k h.1 (by omega)
    rw [numTo]
    split
    · exact Nat.pow_pos (by omega)
    · rename_i h0
      have h2 := h.2
      unfold okAt at h2
      rw [if_neg h0] at h2
      simp only [Bool.and_eq_true, decide_eq_true_eq] at h2
      have e : 10 ^ (k + 1) = 10 ^ k * 10 := Nat.pow_succ ..
      omega
theorem numTo_le (r : List UInt8) (k : Nat) (h : okTill r k = true) (hk : k ≤ 11) : numTo r k ≤ 100000000000 := by
  have h1 := numTo_lt r k h (by omega)
  have h2 : 10 ^ k ≤ 10 ^ 11 := Nat.pow_le_pow_right (by omega) hk
  have h3 : 10 ^ 11 = 100000000000 := by decide
  omega
theorem who_bad {l : List UInt8} (h : l.length < 21 ∨ l.take 5 ≠ [109, 101, 109, 111, 45] ∨ ¬ hexOK ((l.drop 5).take 16)) : whoP l = (0, 0) := by unfold whoP; rw [if_pos h]
set_option maxRecDepth 20000 in
set_option maxHeartbeats 1000000 in
theorem whose_any (s : ByteArray) (w : World) (hs : s.size ≤ 32) :
    Calls Tryz.prog 52 #[.string s] w fun e w' => e = .returned (.tuple #[.int .u64 ((whoP s.data.toList).1 : Int), .int .i64 ((whoP s.data.toList).2 : Int)]) ∧ w' = w := by
  have hll : s.data.toList.length = s.size := by simp
  by_cases h1 : s.size < 21
  · have i1 : (s.size : Int) < 21 := by omega
    rw [who_bad (.inl (by omega))]
    go_enter Tryz.func52, Tryz.ntmps52
    go_wp2
    go_step3
    go_wp2
    rw [Exit.noGoto_ret]
    go_ret2
    exact ⟨rfl, rfl⟩
  · have i1 : ¬ (s.size : Int) < 21 := by omega
    have i2 : (5 : Int) ≤ (s.size : Int) := by omega
    have i3 : (21 : Int) ≤ (s.size : Int) := by omega
    have e5 : (s.extract 0 5).toList = s.data.toList.take 5 := by rw [ByteArray.toList_eq, ext_list]; simp
    by_cases h5 : s.data.toList.take 5 = [109, 101, 109, 111, 45]
    · have j5 : ((s.extract 0 5).toList == [109, 101, 109, 111, 45]) = true := by rw [e5, h5]; rfl
      have e16 : (s.extract 5 21).data.toList = (s.data.toList.drop 5).take 16 := ext_list s 5 21
      clear e5
      by_cases h16 : hexOK ((s.data.toList.drop 5).take 16)
      · have hun := unhex_yes (s.extract 5 21) w (by rw [e16]; exact h16)
        rw [e16] at hun
        have er : (s.extract 21 s.size).data.toList = s.data.toList.drop 21 := by
          rw [ext_list, List.take_of_length_le (by rw [List.length_drop]; omega)]
        have HW : Hid (whoP s.data.toList = if okTill (s.data.toList.drop 21) (s.data.toList.drop 21).length = true then ((unhexTo ((s.data.toList.drop 5).take 16) 16).toNat, numTo (s.data.toList.drop 21) (s.data.toList.drop 21).length) else (0, 0)) := by
          show _ = _
          unfold whoP
          rw [if_neg]
          rintro (h | h | h)
          · omega
          · exact h h5
          · exact h h16
        have hlo := unhexTo_lo ((s.data.toList.drop 5).take 16) 16
        obtain ⟨K, hK⟩ : ∃ K : Nat, unhexTo ((s.data.toList.drop 5).take 16) 16 = (K : Int) := ⟨_, (Int.toNat_of_nonneg hlo).symm⟩
        rw [hK] at hun HW
        obtain ⟨R, hR⟩ : ∃ R, R = s.extract 21 s.size := ⟨_, rfl⟩
        obtain ⟨r, hr⟩ : ∃ r, r = s.data.toList.drop 21 := ⟨_, rfl⟩
        have hrs : r.length = R.size := by
          rw [hr, ← er, ← hR]
          simp
        have hr11 : R.size ≤ 11 := by rw [← hrs, hr, List.length_drop]; omega
        have HR : Hid (R.data.toList = r) := by rw [hr, hR]; exact er
        rw [← hr] at HW
        clear hlo hK er h16 e16 hll hr
        go_enter Tryz.func52, Tryz.ntmps52
        go_wp2
        go_step3
        go_wp2_with (go_at_call 94; refine hun.mono ?_; clear hun; rintro e w1 ⟨rfl, hw1⟩; subst hw1)
        rw [← hR]
        clear hR
        go_step3
        go_wp2_with fail
        go_loopw [6, 30] (fun v i wr => ∃ k : Nat, k ≤ R.size ∧ v = .int .i64 ((numTo r k : Nat) : Int) ∧ i = .int .i64 (k : Int) ∧ wr = w1 ∧ Hid (okTill r k = true)) (fun _ i _ => R.size - (intOf i).toNat)
        case atStart => exact ⟨0, Nat.zero_le _, rfl, rfl, rfl, rfl⟩
        case round =>
          obtain ⟨k, hk, rfl, rfl, rfl, hok⟩ := hrel
          by_cases hlt : k < R.size
          · have i7 : (k : Int) < (R.size : Int) := by omega
            have hbt : bt r k = (R[k].toNat : Int) := by
              rw [← HR.out]
              unfold bt
              congr 2
              simp [List.getD, hlt]
              rfl
            have HBad : Hid (okAt r k = false → whoP s.data.toList = (0, 0)) := fun hno => by
              rw [HW.out, if_neg]
              intro h
              have := okTill_le _ (k + 1) _ h (by omega)
              rw [okTill_succ, hno] at this
              simp at this
            have hnl := numTo_le r k hok.out (by omega)
            obtain ⟨N, hN⟩ : ∃ N, N = numTo r k := ⟨_, rfl⟩
            have HN : Hid (N = numTo r k) := hN
            rw [← hN] at hnl ⊢
            clear hN
            have hc255 : R[k].toNat ≤ 255 := by have := R[k].toNat_lt; omega
            by_cases h0 : k = 0
            · subst h0
              have hN0 : N = 0 := HN.out
              subst hN0
              clear HN hnl
              go_wp2
              all_goals first
                | (refine ⟨⟨1, by omega, by simp [numTo], rfl, trivial, ?_⟩, by simp [intOf]; omega⟩
                   show okTill r (0 + 1) = true
                   rw [okTill_succ, hok.out, Bool.true_and]
                   unfold okAt
                   rw [if_pos rfl, hbt]
                   simp
                   omega)
                | (try rw [Exit.noGoto_ret]
                   go_ret2
                   refine ⟨?_, rfl⟩
                   rw [HBad.out (by unfold okAt; rw [if_pos rfl, hbt]; simp; omega)]
                   rfl)
            · have a0 : ((k : Int) == 0) = false := by simp; omega
              by_cases hz : R[k].toNat = 48
              · have a4 : ((R[k].toNat : Int) == 48) = true := by simp [hz]
                go_wp2
                all_goals first
                  | (refine ⟨⟨k + 1, by omega, ?_, by (first | go_num | (congr 1; omega)), trivial, ?_⟩, by simp [intOf]; omega⟩
                     · rw [numTo, if_neg h0, ← HN.out, hbt]
                       congr 1
                       omega
                     show okTill r (k + 1) = true
                     rw [okTill_succ, hok.out, Bool.true_and]
                     unfold okAt
                     rw [if_neg h0, hbt]
                     simp
                     first | omega | grind)
                  | (try rw [Exit.noGoto_ret]
                     go_ret2
                     refine ⟨?_, rfl⟩
                     rw [HBad.out (by unfold okAt; rw [if_neg h0, hbt]; simp; first | omega | (intros; omega) | grind)]
                     rfl)
              · have a4 : ((R[k].toNat : Int) == 48) = false := by simp; omega
                go_wp2
                all_goals first
                  | (refine ⟨⟨k + 1, by omega, ?_, by (first | go_num | (congr 1; omega)), trivial, ?_⟩, by simp [intOf]; omega⟩
                     · rw [numTo, if_neg h0, ← HN.out, hbt]
                       congr 1
                       omega
                     show okTill r (k + 1) = true
                     rw [okTill_succ, hok.out, Bool.true_and]
                     unfold okAt
                     rw [if_neg h0, hbt]
                     simp
                     first | omega | grind)
                  | (try rw [Exit.noGoto_ret]
                     go_ret2
                     refine ⟨?_, rfl⟩
                     rw [HBad.out (by unfold okAt; rw [if_neg h0, hbt]; simp; first | omega | (intros; omega) | grind)]
                     rfl)
          · obtain rfl : k = R.size := by omega
            have HB : Hid (whoP s.data.toList = (K, numTo r R.size)) := by
              show _ = _
              rw [HW.out, hrs, if_pos hok.out]
              simp
            have i7 : ¬ (R.size : Int) < (R.size : Int) := by omega
            clear HW
            go_wp2
            try rw [Exit.noGoto_ret]
            go_ret2
            rw [HB.out]
            exact ⟨rfl, rfl⟩
      · have hun := unhex_no (s.extract 5 21) w (by rw [e16]; exact h16)
        rw [who_bad (.inr (.inr h16))]
        go_enter Tryz.func52, Tryz.ntmps52
        go_wp2
        go_step3
        go_wp2_with (go_at_call 94; refine hun.mono ?_; clear hun; rintro e w1 ⟨rfl, hw1⟩; subst hw1)
        rw [Exit.noGoto_ret]
        go_ret2
        exact ⟨rfl, rfl⟩
    · have j5 : ((s.extract 0 5).toList == [109, 101, 109, 111, 45]) = false := by rw [e5]; simpa using h5
      rw [who_bad (.inr (.inl h5))]
      clear e5
      go_enter Tryz.func52, Tryz.ntmps52
      go_wp2
      go_step3
      go_wp2
      rw [Exit.noGoto_ret]
      go_ret2
      exact ⟨rfl, rfl⟩
end Go.Proofs.YtdjodigimhgklaaGreatDoor

/- The document's names of a memo's files. -/
namespace Go.Proofs.YtdjodigimhgklaaGreatDoor
open Go.RowKit Go.Shelf

attribute [local go_sem] Oper.semAt_some

set_option maxRecDepth 20000 in
set_option maxHeartbeats 1000000 in
theorem dfile_any (key : Nat) (w : World) (hk : key < 18446744073709551616) :
    Calls Tryz.prog 24 #[.int .u64 (key : Int)] w fun e w' => e = .returned (.string ⟨(nmB key 0).toArray⟩) ∧ Below w.heap.size w w' := by
  have hx := refHex_any key w hk
  have h16 := hexOf_len key
  have HE : Hid (nmB key 0 = [109, 101, 109, 111, 45] ++ hexOf key) := (by simp [nmB] : nmB key 0 = [109, 101, 109, 111, 45] ++ hexOf key)
  go_enter Tryz.func24, Tryz.ntmps24
  go_wp2_with (go_at_call 62; refine hx.mono ?_; clear hx; rintro e w1 ⟨rfl, hB1⟩)
  go_ret
  refine ⟨?_, hB1⟩
  show Ending.returned (Value.string ((⟨#[109, 101, 109, 111, 45]⟩ : ByteArray) ++ ⟨(hexOf key).toArray⟩)) = _
  rw [HE.out, ← str_app]
set_option maxRecDepth 20000 in
set_option maxHeartbeats 1000000 in
theorem drun_any (key n : Nat) (w : World) (hk : key < 18446744073709551616) (h0 : 0 < n) (hn : n < 100) :
    Calls Tryz.prog 50 #[.int .u64 (key : Int), .int .i64 (n : Int)] w fun e w' => e = .returned (.string ⟨(nmB key n).toArray⟩) ∧ Below w.heap.size w w' := by
  have hf := dfile_any key w hk
  have hdd : ∀ n < 100, (Lib.decDigits n).length ≤ 2 := by decide +kernel
  have hd2 := hdd n hn
  have h16 : (nmB key 0).length = 21 := by simp [nmB, hexOf_len]
  clear hdd
  have hit := fun W => Tryz.strconv_Itoa_small n hn W
  have HE : Hid (nmB key n = nmB key 0 ++ [45] ++ Lib.decDigits n) := (by simp [nmB, show ¬ n = 0 by omega] : nmB key n = nmB key 0 ++ [45] ++ Lib.decDigits n)
  generalize nmB key 0 = N0 at *
  go_enter Tryz.func50, Tryz.ntmps50
  go_wp2_with first
    | (go_at_call 77; refine (hit _).mono ?_; clear hit; rintro e w2 ⟨rfl, hw2⟩; subst hw2)
    | (go_at_call 24; refine hf.mono ?_; clear hf; rintro e w1 ⟨rfl, hB1⟩)
  go_ret
  refine ⟨?_, hB1⟩
  show Ending.returned (Value.string ((⟨N0.toArray⟩ : ByteArray) ++ ⟨#[45]⟩ ++ ⟨(Lib.decDigits n).toArray⟩)) = _
  rw [HE.out, ← str_app, ← str_app]
end Go.Proofs.YtdjodigimhgklaaGreatDoor

/- Bytes put together behind a variable: a row of the call's own in a box. -/
namespace Go.Proofs.YtdjodigimhgklaaGreatDoor
open Go.RowKit

theorem vrow_shape {w : World} {B n : Nat} {e : TypeId} {v : Value} {xs : List Value} (h : w.ownsRow B e 1 v n xs) : ∃ ad c, v = .slice ad n c ∧ n ≤ c ∧ (ad = none → n = 0 ∧ c = 0) := by
  rcases h.2 with ⟨rfl, rfl⟩ | ⟨g, cap, cur, rfl, _, _, hc, _⟩
  · exact ⟨none, 0, rfl, Nat.le_refl _, fun _ => ⟨rfl, rfl⟩⟩
  · exact ⟨_, _, rfl, hc, fun h => by cases h⟩
theorem vrow_bytes {w : World} {B n c : Nat} {ad : Option Addr} {l : List UInt8} (h : w.ownsRow B 5 1 (.slice ad n c) n (cellsOf l)) : Bytes w ad n l := by
  have hl : l.length = n := by have := h.1; rw [cellsOf_length] at this; omega
  rcases h.2 with ⟨hv, hn⟩ | ⟨g, cap, cur, hv, _, hg, hc, _, _, ht⟩
  · exact ⟨hl, fun h0 => by omega⟩
  · cases hv
    refine ⟨hl, fun _ => ⟨g, 0, rfl, fun j hj => ?_⟩⟩
    have e : (cur.toList.take (n * 1))[j]? = some (.int .u8 (bt l j)) := by rw [ht]; exact cellsOf_get l j (by omega)
    rw [List.getElem?_take_of_lt (by omega)] at e
    simp only [World.cell?, hg]
    show cur[0 + j]? = _
    rw [Nat.zero_add, ← Array.getElem?_toList]; exact e
theorem vrow_block {W : World} {base n : Nat} {e : TypeId} {v : Value} {xs : List Value} (h : W.ownsRow base e 1 v n xs) : ∀ r, v.ownBlock = some r → base ≤ r ∧ r < W.heap.size ∧ ∃ cur, W.heap[r]? = some (.cells cur e (0, 0)) := by
  intro r hr
  rcases h.2 with ⟨rfl, _⟩ | ⟨g, cap, cur, rfl, hb, hg, _⟩
  · cases hr
  · cases hr
    exact ⟨hb, (Array.getElem?_eq_some_iff.1 hg).1, cur, hg⟩
theorem vrun_app (w : World) (B : Nat) (hB : B ≤ w.heap.size) (ty : TypeId) (v : Value) (n : Nat) (xs : List Value) (hown : w.ownsRow B 5 1 v n xs) (ad : Option Addr) (m c : Nat) (l : List UInt8) (hb : Bytes w ad m l) (hnil : ad = none → m = 0 ∧ c = 0) (hm : n + m ≤ 140737488355328) :
    ∃ v' w', (Builtin.append_ #[33, 33] ty #[v, .slice ad m c]).run Tryz.prog w = .ok v' w' ∧ w'.ownsRow B 5 1 v' (n + m) (xs ++ cellsOf l) ∧ w.grownBy w' v.ownBlock ∧ (v'.ownBlock = v.ownBlock ∨ v'.ownBlock = some w.heap.size) := by
  obtain ⟨i0, hi, hz0, hz1, hz2⟩ := info_parts Tryz.info5
  cases ad with
  | none =>
    obtain ⟨rfl, rfl⟩ := hnil rfl
    have hl : l = [] := List.eq_nil_of_length_eq_zero hb.1
    subst hl
    exact ⟨v, w, run_append_owned_none (P := Tryz.prog) (w := w) B 33 ty 5 i0 1 Tryz.underlying33 hi v n xs hown, by simpa [cellsOf] using hown, ⟨rfl, rfl, rfl, Nat.le_refl _, fun _ _ _ => rfl⟩, .inl rfl⟩
  | some ad =>
    obtain ⟨v', w', h1, h2, h3, _, h5⟩ := run_append_own_at (P := Tryz.prog) w B 33 ty 5 i0 (.int .u8 0) 1 1 Tryz.underlying33 hi hz0 hz1 hz2 rfl (by omega) v n xs hown ad m c (cellsOf l) (by rw [cellsOf_length, hb.1]; omega) (by
      intro j u hj
      have hjl : j < l.length := by have := (List.getElem?_eq_some_iff.1 hj).1; rw [cellsOf_length] at this; exact this
      have hl := hb.1
      obtain ⟨b, off, hx', hc⟩ := hb.2 (by omega)
      obtain rfl := Option.some.inj hx'
      rw [cellsOf_get l j hjl] at hj
      rw [Addr.add_lit, hc j (by omega)]
      exact hj) (cellsOf_one l) (by unfold maxLen; omega) (by omega) hB
    exact ⟨v', w', h1, h2, h3, h5⟩
theorem vwpList_app (w : World) (B : Nat) (hB : B ≤ w.heap.size) {ops : Array Oper} {rest : List Oper} {o : Oper} {a : Act} {Q : Exit → Act → World → Prop} (hgd : o.guard = none) (s x : Operand)
    (ho : o.op = .call { callee := .builtin .append, args := #[s, x], argTypes := #[33, 33] })
    (v : Value) (n : Nat) (xs : List Value) (hs : a.eval s = v) (hown : w.ownsRow B 5 1 v n xs) (ad : Option Addr) (m c : Nat) (l : List UInt8) (hx : a.eval x = .slice ad m c) (hb : Bytes w ad m l) (hnil : ad = none → m = 0 ∧ c = 0) (hm : n + m ≤ 140737488355328)
    (h : ∀ v' w', w'.ownsRow B 5 1 v' (n + m) (xs ++ cellsOf l) → w.grownBy w' v.ownBlock → (v'.ownBlock = v.ownBlock ∨ v'.ownBlock = some w.heap.size) → wpList Tryz.prog ops Q rest (a.put o.dst v') w') : wpList Tryz.prog ops Q (o :: rest) a w := by
  refine wpList_plain hgd fun K hK => ?_
  obtain ⟨v', w', hr, h2, h3, h4⟩ := vrun_app w B hB o.type v n xs hown ad m c l hb hnil hm
  unfold Oper.wp execOp
  simp only [ho, resolve, invoke, builtin, Sem.run_bind, Sem.run_pure, Result.andThen_ok, List.map_toArray, List.map_cons, List.map_nil, hs, hx, hr]
  exact hK _ _ (h v' w' h2 h3 h4)
/-- the bytes put together so far lie in a row that the variable in block B holds -/
structure VOut (w0 : World) (B : Nat) (l : List UInt8) (W : World) : Prop where
  box : ∃ v, Boxed W B 33 v ∧ W.ownsRow w0.heap.size 5 1 v l.length (cellsOf l)
  bel : Below w0.heap.size w0 W
  le : w0.heap.size ≤ B
theorem VOut.below {w0 W W' : World} {B : Nat} {l : List UInt8} (h : VOut w0 B l W) (hb : Below W.heap.size W W') : VOut w0 B l W' := by
  obtain ⟨v, hv, ho⟩ := h.box
  exact ⟨⟨v, (hb.block B hv.lt).trans hv, ho.kept (row := none) ⟨hb.os, hb.tape, hb.output, hb.size, fun k hk _ => hb.block k hk⟩ (by cases v.ownBlock <;> simp)⟩, h.bel.trans (hb.mono h.bel.size), h.le⟩
theorem VOut.alloc {w0 W : World} {B : Nat} {l : List UInt8} (h : VOut w0 B l W) (o : Obj) : VOut w0 B l (W.alloc o) := h.below ((Below.refl _ _).alloc (Nat.le_refl _) _)


theorem vbytes_below {w W : World} {a : Option Addr} {n : Nat} {l : List UInt8} (h : Bytes w a n l) (hB : Below w.heap.size w W) : Bytes W a n l :=
  ⟨h.1, fun h0 => by
    obtain ⟨b, off, e, hc⟩ := h.2 h0
    exact ⟨b, off, e, fun i hi => (hB.cell (p := ⟨b, off + i, none⟩) (World.block_lt_of_cell? w _ (hc i hi))).trans (hc i hi)⟩⟩
theorem vgrown_below {w w' : World} (h : w.grownBy w' none) : Below w.heap.size w w' := (Below.refl _ w).grown h (Nat.le_refl _) (by simp)
set_option maxRecDepth 20000 in
theorem vstep_putWord (w : World) {ops : Array Oper} {o : Oper} {a : Act} {K : Act → World → Prop} {Q : Exit → Act → World → Prop} {E : Prop} (hgd : o.guard = none) (x y : Nat) (t1 t2 : TypeId)
    (ho : o.op = .call { callee := .value (.func 111), args := #[.tmp x, .tmp y], argTypes := #[t1, t2] }) (vx vy : Value) (hx : a.tmps[x]?.getD undef = vx) (hy : a.tmps[y]?.getD undef = vy) (R : Value → World → Prop)
    (hc : Calls Tryz.prog 111 #[vx, vy] w fun e w' => ∃ v, e = .returned v ∧ R v w') (hK : ∀ v w', R v w' → K (a.put o.dst v) w') :
    if Region.wanted o (yielded ops a.tmps) = true then Oper.wp Tryz.prog o a w K Q else E := by
  have hw : Region.wanted o (yielded ops a.tmps) = true := by simp [Region.wanted, hgd]
  rw [if_pos hw]
  unfold Oper.wp execOp
  simp [ho, resolve, invoke, go_sem, hx, hy]
  refine hc.mono ?_
  rintro e w' ⟨v, rfl, hR⟩
  have := hK v w' hR
  simpa [go_sem] using this
set_option maxRecDepth 20000 in
theorem vstep_putWord0 (w : World) {ops : Array Oper} {o : Oper} {a : Act} {K : Act → World → Prop} {Q : Exit → Act → World → Prop} {E : Prop} (hgd : o.guard = none) (y : Nat) (t1 t2 : TypeId)
    (ho : o.op = .call { callee := .value (.func 111), args := #[.const (.slice none 0 0), .tmp y], argTypes := #[t1, t2] }) (vy : Value) (hy : a.tmps[y]?.getD undef = vy) (R : Value → World → Prop)
    (hc : Calls Tryz.prog 111 #[.slice none 0 0, vy] w fun e w' => ∃ v, e = .returned v ∧ R v w') (hK : ∀ v w', R v w' → K (a.put o.dst v) w') :
    if Region.wanted o (yielded ops a.tmps) = true then Oper.wp Tryz.prog o a w K Q else E := by
  have hw : Region.wanted o (yielded ops a.tmps) = true := by simp [Region.wanted, hgd]
  rw [if_pos hw]
  unfold Oper.wp execOp
  simp [ho, resolve, invoke, go_sem, hy]
  refine hc.mono ?_
  rintro e w' ⟨v, rfl, hR⟩
  have := hK v w' hR
  simpa [go_sem] using this
set_option maxRecDepth 20000 in
theorem vstep_hash (w : World) {ops : Array Oper} {o : Oper} {a : Act} {K : Act → World → Prop} {Q : Exit → Act → World → Prop} {E : Prop} (hgd : o.guard = none) (x : Nat) (t1 : TypeId)
    (ho : o.op = .call { callee := .value (.func 112), args := #[.tmp x], argTypes := #[t1] }) (vx : Value) (hx : a.tmps[x]?.getD undef = vx) (R : Value → World → Prop)
    (hc : Calls Tryz.prog 112 #[vx] w fun e w' => ∃ v, e = .returned v ∧ R v w') (hK : ∀ v w', R v w' → K (a.put o.dst v) w') :
    if Region.wanted o (yielded ops a.tmps) = true then Oper.wp Tryz.prog o a w K Q else E := by
  have hw : Region.wanted o (yielded ops a.tmps) = true := by simp [Region.wanted, hgd]
  rw [if_pos hw]
  unfold Oper.wp execOp
  simp [ho, resolve, invoke, go_sem, hx]
  refine hc.mono ?_
  rintro e w' ⟨v, rfl, hR⟩
  have := hK v w' hR
  simpa [go_sem] using this
set_option maxRecDepth 20000 in
theorem vstep_word (w : World) {ops : Array Oper} {o : Oper} {a : Act} {K : Act → World → Prop} {Q : Exit → Act → World → Prop} {E : Prop} (hgd : o.guard = none) (x : Nat) (t1 : TypeId)
    (ho : o.op = .call { callee := .value (.func 116), args := #[.tmp x], argTypes := #[t1] }) (vx : Value) (hx : a.tmps[x]?.getD undef = vx) (R : Value → World → Prop)
    (hc : Calls Tryz.prog 116 #[vx] w fun e w' => ∃ v, e = .returned v ∧ R v w') (hK : ∀ v w', R v w' → K (a.put o.dst v) w') :
    if Region.wanted o (yielded ops a.tmps) = true then Oper.wp Tryz.prog o a w K Q else E := by
  have hw : Region.wanted o (yielded ops a.tmps) = true := by simp [Region.wanted, hgd]
  rw [if_pos hw]
  unfold Oper.wp execOp
  simp [ho, resolve, invoke, go_sem, hx]
  refine hc.mono ?_
  rintro e w' ⟨v, rfl, hR⟩
  have := hK v w' hR
  simpa [go_sem] using this
set_option maxRecDepth 20000 in
theorem vstep_rises (w : World) {ops : Array Oper} {o : Oper} {a : Act} {K : Act → World → Prop} {Q : Exit → Act → World → Prop} {E : Prop} (hgd : o.guard = none) (x : Nat) (t1 : TypeId)
    (ho : o.op = .call { callee := .value (.func 72), args := #[.tmp x], argTypes := #[t1] }) (vx : Value) (hx : a.tmps[x]?.getD undef = vx) (R : Value → World → Prop)
    (hc : Calls Tryz.prog 72 #[vx] w fun e w' => ∃ v, e = .returned v ∧ R v w') (hK : ∀ v w', R v w' → K (a.put o.dst v) w') :
    if Region.wanted o (yielded ops a.tmps) = true then Oper.wp Tryz.prog o a w K Q else E := by
  have hw : Region.wanted o (yielded ops a.tmps) = true := by simp [Region.wanted, hgd]
  rw [if_pos hw]
  unfold Oper.wp execOp
  simp [ho, resolve, invoke, go_sem, hx]
  refine hc.mono ?_
  rintro e w' ⟨v, rfl, hR⟩
  have := hK v w' hR
  simpa [go_sem] using this
theorem vstep_app (w : World) {ops : Array Oper} {o : Oper} {a : Act} {K : Act → World → Prop} {Q : Exit → Act → World → Prop} {E : Prop} (hgd : o.guard = none) (s x : Operand)
    (ho : o.op = .call { callee := .builtin .append, args := #[s, x], argTypes := #[33, 33] }) (B : Nat) (hB : B ≤ w.heap.size)
    (v : Value) (n : Nat) (xs : List Value) (hs : a.eval s = v) (hown : w.ownsRow B 5 1 v n xs) (ad : Option Addr) (m c : Nat) (l : List UInt8) (hx : a.eval x = .slice ad m c) (hb : Bytes w ad m l) (hnil : ad = none → m = 0 ∧ c = 0) (hm : n + m ≤ 140737488355328)
    (hK : ∀ ad' c' w', w'.ownsRow B 5 1 (.slice ad' (n + m) c') (n + m) (xs ++ cellsOf l) → w.grownBy w' v.ownBlock → K (a.put o.dst (.slice ad' (n + m) c')) w') :
    if Region.wanted o (yielded ops a.tmps) = true then Oper.wp Tryz.prog o a w K Q else E := by
  have hw : Region.wanted o (yielded ops a.tmps) = true := by simp [Region.wanted, hgd]
  rw [if_pos hw]
  obtain ⟨v', w', hr, h2, h3, h4⟩ := vrun_app w B hB o.type v n xs hown ad m c l hb hnil hm
  obtain ⟨ad', c', rfl, _⟩ := vrow_shape h2
  unfold Oper.wp execOp
  simp only [ho, resolve, invoke, builtin, Sem.run_bind, Sem.run_pure, Result.andThen_ok, List.map_toArray, List.map_cons, List.map_nil, hs, hx, hr]
  exact hK ad' c' w' h2 h3
end Go.Proofs.YtdjodigimhgklaaGreatDoor

/- slices.Clone and slices.SortFunc at pairs, by their Froms. -/
namespace Go.Proofs.YtdjodigimhgklaaGreatDoor
open Go.RowKit Go.Shelf Go.Maps Go.Lib

attribute [local go_sem] Oper.semAt_some

def cmpN (x y : Nat) : Int := if x < y then -1 else if y < x then 1 else 0
theorem isNaN_any (x : Int) (w : World) : Calls Tryz.prog 107 #[.int .u64 x] w fun e w' => e = .returned (.bool false) ∧ w' = w := by
  go_enter Tryz.func107, Tryz.ntmps107
  go_wp2
  go_ret
  exact ⟨rfl, rfl⟩
theorem compare_any (x y : Nat) (w : World) : Calls Tryz.prog 71 #[.int .u64 (x : Int), .int .u64 (y : Int)] w fun e w' => e = .returned (.int .i64 (cmpN x y)) ∧ w' = w := by
  by_cases h1 : x < y
  · have i1 : (x : Int) < (y : Int) := by omega
    have HC : Hid (cmpN x y = -1) := by show _ = _; unfold cmpN; rw [if_pos h1]
    go_enter Tryz.func71, Tryz.ntmps71
    go_wp2_with (go_at_call 107; refine (isNaN_any _ _).mono ?_; rintro e w1 ⟨rfl, rfl⟩)
    go_ret
    exact ⟨by rw [HC.out]; rfl, rfl⟩
  · by_cases h2 : y < x
    · have i1 : ¬ (x : Int) < (y : Int) := by omega
      have i2 : (y : Int) < (x : Int) := by omega
      have HC : Hid (cmpN x y = 1) := by show _ = _; unfold cmpN; rw [if_neg h1, if_pos h2]
      go_enter Tryz.func71, Tryz.ntmps71
      go_wp2_with (go_at_call 107; refine (isNaN_any _ _).mono ?_; rintro e w1 ⟨rfl, rfl⟩)
      go_ret
      exact ⟨by rw [HC.out]; rfl, rfl⟩
    · have i1 : ¬ (x : Int) < (y : Int) := by omega
      have i2 : ¬ (y : Int) < (x : Int) := by omega
      have HC : Hid (cmpN x y = 0) := by show _ = _; unfold cmpN; rw [if_neg h1, if_neg h2]
      go_enter Tryz.func71, Tryz.ntmps71
      go_wp2_with (go_at_call 107; refine (isNaN_any _ _).mono ?_; rintro e w1 ⟨rfl, rfl⟩)
      go_ret
      exact ⟨by rw [HC.out]; rfl, rfl⟩
def cfV (p q : Pr) : Int := cmpN p.1 q.1
theorem ltV (p q : Pr) : ltOf cfV p q = decide (p.1 < q.1) := by
  unfold ltOf cfV cmpN
  by_cases h1 : p.1 < q.1
  · simp [h1]
  · by_cases h2 : q.1 < p.1 <;> simp [h1, h2]
theorem swoV : Sort.SWO (ltOf cfV) where
  irrefl x := by rw [ltV]; simp
  trans x y z h1 h2 := by rw [ltV] at *; simp at *; omega
  ntrans x y z h1 h2 := by rw [ltV] at *; simp at *; omega
def encV (p : Pr) : List Value := [.int .u64 (p.1 : Int), .int .u64 (p.2 : Int)]
theorem cmpV_any (p q : Pr) (W : World) : Calls Tryz.prog 70 #[.agg #[.int .u64 (p.1 : Int), .int .u64 (p.2 : Int)], .agg #[.int .u64 (q.1 : Int), .int .u64 (q.2 : Int)]] W fun e w' => e = .returned (.int .i64 (cfV p q)) ∧ ∃ m os', w' = Sort.grow (W.drewN m) os' := by
  have hcon := fun W' => compare_any p.1 q.1 W'
  change ∀ W', Calls Tryz.prog 71 _ _ fun e w' => e = .returned (.int .i64 (cfV p q)) ∧ _ at hcon
  generalize cfV p q = r at hcon ⊢
  go_enter Tryz.func70, Tryz.ntmps70
  go_wp2_with (go_at_call 71; refine (hcon _).mono ?_; rintro e w' ⟨rfl, rfl⟩)
  go_ret
  exact ⟨rfl, 0, _, by rw [Sort.alloc_eq_grow, Sort.alloc_eq_grow, Sort.grow_grow]; rfl⟩
theorem cmpLaysV (blk off size : Nat) (w : World) : CmpLays Tryz.prog 70 #[] encV 2 cfV blk off size w :=
  fun _ _ _ _ x y => cmpV_any x y _
theorem getV! {l : List Pr} {j : Nat} {x : Pr} (h : l[j]? = some x) : (l.toArray[j]! : Pr) = x := by
  obtain ⟨hj, rfl⟩ := List.getElem?_eq_some_iff.1 h
  rw [getElem!_pos l.toArray j (by simpa using hj)]
  simp
theorem holdsV {w : World} {b off n : Nat} {l : List Pr} (h : Prs w (some ⟨b, off, none⟩) n l) (hf : ∀ j, w.frozen? ⟨b, off + j, none⟩ = false) : Sort.HoldsK encV 2 w b off l.toArray := by
  intro t ht
  rw [Sort.size_flatK] at ht
  have ht' : t < l.length * 2 := by simpa using ht
  refine ⟨?_, hf t⟩
  rw [Sort.get_flatK _ _ _ t ht]
  have hk : t / 2 < l.length := by omega
  have hx : l[t / 2]? = some l[t / 2] := List.getElem?_eq_getElem hk
  obtain ⟨b', off', e, hc⟩ := h.2 (by have := h.1; omega)
  cases e
  obtain ⟨c1, c2⟩ := hc _ _ hx
  rw [getV! hx]
  rcases Nat.mod_two_eq_zero_or_one t with h0 | h1
  · rw [h0]
    rw [show b = b from rfl, show off + t = off + t / 2 * 2 by omega]
    exact c1
  · rw [h1]
    rw [show off + t = off + t / 2 * 2 + 1 by omega]
    exact c2
theorem prsV {w : World} {b off : Nat} {d : Array Pr} (h : Sort.HoldsK encV 2 w b off d) : Prs w (some ⟨b, off, none⟩) d.size d.toList := by
  refine ⟨by simp, fun h0 => ⟨b, off, rfl, fun j x hx => ?_⟩⟩
  have hj : j < d.size := by have := (List.getElem?_eq_some_iff.1 hx).1; simpa using this
  have e : (d[j]! : Pr) = x := by
    rw [getElem!_pos d j hj]
    have := (List.getElem?_eq_some_iff.1 hx).2
    rw [← this]; simp
  have c1 := (h (j * 2) (by rw [Sort.size_flatK]; omega)).1
  have c2 := (h (j * 2 + 1) (by rw [Sort.size_flatK]; omega)).1
  rw [Sort.get_flatK _ _ _ _ (by omega), show j * 2 / 2 = j by omega, show j * 2 % 2 = 0 by omega, e] at c1
  rw [Sort.get_flatK _ _ _ _ (by omega), show (j * 2 + 1) / 2 = j by omega, show (j * 2 + 1) % 2 = 1 by omega, e, ← Nat.add_assoc] at c2
  exact ⟨c1, c2⟩
theorem grownBy_sortV {w : World} {g off m : Nat} {os : Array Obj} (d : Array Pr) : w.grownBy (sortWorldK encV 2 w g off m d os) (some g) := by
  unfold sortWorldK Sort.putRowK
  refine ⟨rfl, rfl, rfl, by simp, fun k hk hne => ?_⟩
  rw [Sort.heap_grow_old _ _ (by simpa using hk)]
  have : g ≠ k := fun e => hne (by rw [e])
  simp [Sort.putRow, Sort.mapBlock, Sort.ahead, Array.getElem?_modify, this]
theorem sorted_le {d : Array Pr} (h : Sort.SortedIn (ltOf cfV) 0 d.size d) : d.toList.Pairwise fun p q => p.1 ≤ q.1 := by
  rw [List.pairwise_iff_getElem]
  intro i j hi hj hij
  have hi' : i < d.size := by simpa using hi
  have hj' : j < d.size := by simpa using hj
  have := h i j (Nat.zero_le _) hij hj'
  rw [ltV, decide_eq_false_iff_not, getElem!_pos d j hj', getElem!_pos d i hi'] at this
  simp only [Array.getElem_toList]
  omega
theorem row_frozenV {w : World} {B n g c : Nat} {xs : List Value} (h : w.ownsRow B 39 2 (.slice (some ⟨g, 0, none⟩) n c) n xs) (j : Nat) : w.frozen? ⟨g, 0 + j, none⟩ = false := by
  rcases h.2 with ⟨e, _⟩ | ⟨g', cap, cur, e, _, hg, _⟩
  · cases e
  · cases e
    simp [World.frozen?, hg]
set_option maxHeartbeats 1000000 in
/-- slices.SortFunc by Make's closure -/
theorem vsort_any (w : World) (B : Nat) (ad : Option Addr) (n c : Nat) (l : List Pr) (hown : w.ownsRow B 39 2 (.slice ad n c) n (prCells l)) (hl : l.length = n) (hB : B ≤ w.heap.size) (hn : n ≤ 1000000) :
    Calls Tryz.prog 69 #[.slice ad n c, .func (.func 70) #[] #[]] w fun e w' => e = .returned (.tuple #[]) ∧ ∃ l', l'.Perm l ∧ (l'.Pairwise fun p q => p.1 ≤ q.1) ∧ Prs w' ad n l' ∧ Below B w w' := by
  by_cases h0 : n = 0
  · subst h0
    have hl0 : l = [] := List.eq_nil_of_length_eq_zero hl
    subst hl0
    refine Calls.mono (AnyF.slices_SortFunc_none Tryz.sortV ad c (.func (.func 70) #[] #[]) w) ?_
    rintro e w' ⟨rfl, rfl⟩
    exact ⟨rfl, [], List.Perm.refl _, List.Pairwise.nil, prs_nil _ _, Below.refl _ _⟩
  · rcases hown.2 with ⟨e, h'⟩ | ⟨g, cap, cur, e, hb, hg, _⟩
    · omega
    · cases e
      have hgl : g < w.heap.size := (Array.getElem?_eq_some_iff.1 hg).1
      have eg : ∀ args w, (callFunc 70 args).run Tryz.prog w = .ok (.enter 70 args) w := enters_of Tryz.func70 (by kernel_rfl) rfl
      have hH := holdsV (own_prs hown hl) (row_frozenV hown)
      have hs : l.toArray.size = n := by simpa using hl
      have hcon := AnyQ.slices_SortFunc Tryz.sortV 2 Tryz.isAgg39 Tryz.sizeOf39 encV (fun _ => rfl) (fun x v hv => by simp [encV] at hv; rcases hv with rfl | rfl <;> rfl) cfV swoV 70 #[] g 0 c l.toArray w eg (cmpLaysV _ _ _ _) hH hgl (by rw [hs]; omega)
      rw [hs] at hcon
      refine Calls.mono hcon ?_
      rintro e w' ⟨rfl, d', m, os, hP, hS, rfl⟩
      obtain ⟨p1, _, p3⟩ := hP
      rw [hs] at p1
      have e1 : d'.extract 0 n = d' := by rw [← p1]; simp
      have e2 : l.toArray.extract 0 n = l.toArray := by rw [← hs]; simp
      rw [e1, e2] at p3
      refine ⟨rfl, d'.toList, by simpa using p3, sorted_le (by rw [p1]; exact hS), ?_, ?_⟩
      · have := prsV (holdsK_sortWorldK_c encV 2 w g 0 l.toArray d' m os hH hgl (by rw [p1, hs]))
        rw [p1] at this
        exact this
      · exact (Below.refl B w).grown (grownBy_sortV d') hB (fun k hk => by cases hk; exact hb)

set_option maxHeartbeats 1000000 in
theorem vclone_any (a : Option Addr) (n c : Nat) (l : List Pr) (w : World) (hb : Prs w a n l) (hnil : a = none → n = 0 ∧ c = 0) (hbig : n ≤ 1000000) :
    Calls Tryz.prog 68 #[.slice a n c] w fun e w' => ∃ ad cp, e = .returned (.slice ad n cp) ∧ w'.ownsRow w.heap.size 39 2 (.slice ad n cp) n (prCells l) ∧ Below w.heap.size w w' := by
  have q22 : ∀ (w : World) (a : Option Addr) (n c n' c' : Nat), (binOp .eql 36 (.slice a n c) (.slice none n' c')).run Tryz.prog w = .ok (.bool a.isNone) w := fun w a n c n' c' => Lib.run_eql_slice_nil w _ _ a n c n' c' Tryz.underlying36
  cases a with
  | none =>
    obtain ⟨rfl, rfl⟩ := hnil rfl
    have hl : l = [] := List.eq_nil_of_length_eq_zero hb.1
    subst hl
    go_enter Tryz.func68, Tryz.ntmps68
    go_wp2
    go_ret
    exact ⟨none, 0, rfl, World.ownsRow_nil _ _ _ _, Below.refl _ _⟩
  | some a =>
    have hB0 : Below w.heap.size w (w.alloc (.cells #[] 39)) := (Below.refl _ _).alloc (Nat.le_refl _) _
    have hb0 : Prs (w.alloc (.cells #[] 39)) (some a) n l := hb.kept hB0
    have hr0 : (w.alloc (.cells #[] 39)).ownsRow w.heap.size 39 2 (.slice (some ⟨w.heap.size, 0, none⟩) 0 0) 0 (prCells []) := row_emptyV w w.heap.size (Nat.le_refl _)
    go_enter Tryz.func68, Tryz.ntmps68
    go_wp2_with (at_builtin; refine wpList_appV rfl _ _ rfl w.heap.size 0 n c (.slice (some ⟨w.heap.size, 0, none⟩) 0 0) [] l (some a) rfl rfl hr0 hb0 hnil (by omega) (by simp) ?_; intro a' c' w1 hnc hown hB1)
    go_ret
    simp only [Nat.zero_add, List.nil_append] at *
    exact ⟨_, _, rfl, hown, hB0.trans hB1⟩
end Go.Proofs.YtdjodigimhgklaaGreatDoor
