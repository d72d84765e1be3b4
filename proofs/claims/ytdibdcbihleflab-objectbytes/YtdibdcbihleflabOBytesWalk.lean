/- The walk of the law ObjectBytes. -/
import Derived.Test.YtdibdcbihleflabODec5
namespace Go.Proofs.Ytdibdcbihleflab
open Go.RowKit

attribute [local go_sem] Oper.semAt_some

theorem run_minR (ty : TypeId) (n k : Nat) (w : World) : (Builtin.min_ #[3, 3] ty #[.int .i64 (n : Int), .int .i64 (k : Int)]).run Try.prog w = .ok (.int .i64 ((min n k : Nat) : Int)) w := by
  have hm : (min n k : Nat) = if k < n then k else n := by split <;> omega
  rw [hm]
  by_cases hkn : k < n
  · have i1 : (k : Int) < (n : Int) := by omega
    rw [if_pos hkn]
    simp [Builtin.min_, Builtin.min2, go_sem, i1]
  · have i1 : ¬ (k : Int) < (n : Int) := by omega
    rw [if_neg hkn]
    simp [Builtin.min_, Builtin.min2, go_sem, i1]
theorem wpList_minR (w : World) {ops : Array Oper} {rest : List Oper} {o : Oper} {a : Act} {Q : Exit → Act → World → Prop} (hgd : o.guard = none) (x y : Operand)
    (ho : o.op = .call { callee := .builtin .min, args := #[x, y], argTypes := #[3, 3] }) (n k : Nat) (K : Int) (hx : a.eval x = .int .i64 (n : Int)) (hy : a.eval y = .int .i64 K) (hk : K = (k : Int))
    (h : wpList Try.prog ops Q rest (a.put o.dst (.int .i64 ((min n k : Nat) : Int))) w) : wpList Try.prog ops Q (o :: rest) a w := by
  refine wpList_plain hgd fun K hK => ?_
  subst hk
  unfold Oper.wp execOp
  simp only [ho, resolve, invoke, builtin, Sem.run_bind, Sem.run_pure, Result.andThen_ok, List.map_toArray, List.map_cons, List.map_nil, hx, hy, run_minR]
  exact hK _ _ h


theorem ob_not {o : Ob} {v : Value} {W : World} (h : ObAt o v W) (hb : isBlob o = false) : ∀ xT w, (Instr.typeAssert v xT 31 true).run Try.prog w = .ok (.tuple #[.agg #[.slice none 0 0], .bool false]) w := by
  cases o with
  | blob b => cases hb
  | tree l => obtain ⟨ad, cp, rfl, _⟩ := h; exact no_blob 33 (by decide) _
  | com c => obtain ⟨ad, cp, rfl, _⟩ := h; exact no_blob 28 (by decide) _
theorem ob_is {o : Ob} {v : Value} {W : World} (h : ObAt o v W) (hb : isBlob o = true) : ∃ (ba : Option Addr) (bn bcp : Nat), ∀ xT w, (Instr.typeAssert v xT 31 true).run Try.prog w = .ok (.tuple #[.agg #[.slice ba bn bcp], .bool true]) w := by
  cases o with
  | blob b => obtain ⟨ad, cp, rfl, _⟩ := h; exact ⟨_, _, _, as_blob _⟩
  | tree l => cases hb
  | com c => cases hb
theorem Bytes.takeR {w : World} {a : Option Addr} {n : Nat} {l : List UInt8} (h : Bytes w a n l) (m : Nat) (hm : m ≤ n) : Bytes w a m (l.take m) := by
  refine ⟨by simp [h.1]; omega, fun h0 => ?_⟩
  obtain ⟨b, off, e, hc⟩ := h.2 (by omega)
  exact ⟨b, off, e, fun i hi => by rw [bt_take _ _ _ hi]; exact hc i (by omega)⟩
theorem cells_byte (x : Int) (X : UInt8) (h : x = (X.toNat : Int)) : (#[Value.int .u8 x] : Array Value) = (cellsOf [X]).toArray := by rw [h]; rfl
/-- what Decode answers of the bytes, of one more and of one less -/
structure DD (L : List UInt8) (X : UInt8) (o : Ob) : Prop where
  err : obErr o = 0
  eq : obB o = L
  kind : obK o ≠ 0
theorem obK_ne (o : Ob) : obK o ≠ 0 := by cases o <;> simp [obK]
theorem own_more {L : List UInt8} {m B : Nat} {X : UInt8} {v : Value} {W : World} (hl : L.length = m) (h : W.ownsRow B 5 1 v (0 + m + 1) ([] ++ cellsOf L ++ cellsOf [X])) : ∃ ad c, v = .slice (some ad) (m + 1) c ∧ Bytes W (some ad) (m + 1) (L ++ [X]) := by
  have e : (L ++ [X]).length = m + 1 := by simp [hl]
  have hc : cellsOf (L ++ [X]) = [] ++ cellsOf L ++ cellsOf [X] := by simp [cellsOf]
  rw [show 0 + m + 1 = (L ++ [X]).length by omega, ← hc] at h
  have h' : OwnB B (L ++ [X]) v W := ⟨h⟩
  obtain ⟨ad, c, rfl, hn⟩ := h'.shape e
  cases ad with
  | none => have := hn rfl; omega
  | some ad => exact ⟨ad, c, rfl, h'.bytes e⟩

set_option maxRecDepth 100000 in
set_option maxHeartbeats 8000000 in
theorem bytes_none (a : Option Addr) (n c m : Nat) (L : List UInt8) (x : Int) (w : World) (hm : m = min n 8192) (HYY : Bytes w a m L) (hmc : m ≤ c) (hnil : a = none → m = 0 ∧ c = 0) (hD : decG L = none) :
    Calls Try.prog 4 #[.slice a n c, .int .u8 x] w fun e w' => e = .returned (.bool true) ∧ Below w.heap.size w w' := by
  have HM : Hid (m = min n 8192) := hm
  have hm9 : m ≤ 8192 := by omega
  have im : (m : Int) ≤ (c : Int) := by omega
  have HY : Hid (Bytes w a m L) := HYY
  have HN : Hid (a = none → m = 0 ∧ c = 0) := hnil
  clear hm HYY hnil
  have HD : Hid (∀ W, Bytes W a m L → Calls Try.prog 10 #[.slice a m c] W fun y w' => y = .returned (.tuple #[.nilIface, .int .i64 8]) ∧ Below W.heap.size W w') := fun W h => by
    have := Decode_any a m c L W h (by omega)
    rw [hD] at this
    exact this
  clear hD
  go_enter Try.func4, Try.ntmps4
  go_wp2_with first
    | (go_at_call 7; have _t := HY; refine (wakes_any _).mono ?_; rintro e w1 ⟨rfl, hB1⟩; have hy1 := bytes_below HY.out hB1; clear HY _t)
    | (refine wpList_minR _ rfl _ _ rfl n 8192 _ rfl rfl rfl ?_; rw [← HM.out])
    | (go_at_call 10; refine (HD.out _ hy1).mono ?_; rintro e w2 ⟨rfl, hB2⟩)
    | (go_at_call 7; refine (wakes_any _).mono ?_; rintro e w3 ⟨rfl, hB3⟩)
  go_ret
  exact ⟨rfl, hB1.trans ((hB2.trans (hB3.mono hB2.size)).mono hB1.size)⟩

set_option maxRecDepth 100000 in
set_option maxHeartbeats 8000000 in
theorem bytes_not (a : Option Addr) (n c m m' : Nat) (L : List UInt8) (x : Int) (X : UInt8) (hX : x = (X.toNat : Int)) (w : World) (hm : m = min n 8192) (HYY : Bytes w a m L) (hmc : m ≤ c) (hnil : a = none → m = 0 ∧ c = 0) (hm' : m = m' + 1) (o : Ob) (hD : decG L = some o) (hDD : DD L X o) (hBl : isBlob o = false) (hG2 : decG (L ++ [X]) = none) (hG3 : decG (L.take m') = none) :
    Calls Try.prog 4 #[.slice a n c, .int .u8 x] w fun e w' => e = .returned (.bool true) ∧ Below w.heap.size w w' := by
  have HM : Hid (m = min n 8192) := hm
  have hm9 : m ≤ 8192 := by omega
  have im : (m : Int) ≤ (c : Int) := by omega
  have HY : Hid (Bytes w a m L) := HYY
  have HN : Hid (a = none → m = 0 ∧ c = 0) := hnil
  clear hm HYY hnil
  have Hm' : Hid (m = m' + 1) := hm'
  have i8 : (m : Int) - 1 = (m' : Int) := by omega
  have i9 : (m' : Int) ≤ (c : Int) := by omega
  have i11 : IntKind.i64.wrap (m' : Int) = (m' : Int) := by simp [IntKind.wrap, IntKind.bits, IntKind.signed]; omega
  have HLn : Hid (L.length = m) := HY.out.1
  have HD1 : Hid (∀ W, Bytes W a m L → Calls Try.prog 10 #[.slice a m c] W fun y w' => (∃ v, y = .returned (.tuple #[v, .int .i64 0]) ∧ ObAt o v w') ∧ Below W.heap.size W w') := fun W h => by
    have := Decode_any a m c L W h (by omega)
    rw [hD] at this
    exact this
  have HE : Hid (∀ W v, ObAt o v W → Calls Try.prog 8 #[v] W fun e w' => ∃ ad cp, e = .returned (.tuple #[.slice ad m cp, .int .i64 0]) ∧ Bytes w' ad m L ∧ Below W.heap.size W w') := fun W v h => by
    have := Encode_ob W h hDD.err
    rw [hDD.eq, HLn.out] at this
    exact this
  obtain ⟨K, hK⟩ : ∃ K, K = obK o := ⟨_, rfl⟩
  have hK0 : (K == 0) = false := by rw [hK]; simp [hDD.kind]
  have HKd : Hid (∀ W v, ObAt o v W → Calls Try.prog 13 #[v] W fun e w' => e = .returned (.int .i64 K) ∧ w' = W) := fun W v h => by rw [hK]; exact Kind_ob W h
  have HD2 : Hid (∀ W ad cp, Bytes W (some ad) (m + 1) (L ++ [X]) → Calls Try.prog 10 #[.slice (some ad) (m + 1) cp] W fun y w' => GotO none y w' ∧ Below W.heap.size W w') := fun W ad cp h => by
    have := Decode_any (some ad) (m + 1) cp (L ++ [X]) W h (by omega)
    rw [hG2] at this
    exact this
  have HD3 : Hid (∀ W, Bytes W a m L → Calls Try.prog 10 #[.slice a m' c] W fun y w' => GotO none y w' ∧ Below W.heap.size W w') := fun W h => by
    have h1 := Bytes.takeR h m' (by omega)
    have := Decode_any a m' c (L.take m') W h1 (by omega)
    rw [hG3] at this
    exact this
  have HX : Hid ((#[Value.int .u8 x] : Array Value) = (cellsOf [X]).toArray) := cells_byte x X hX
  have HBB : Hid (isBlob o = false) := hBl
  clear hD hX hm' hDD hK hBl hG2 hG3
  go_enter Try.func4, Try.ntmps4
  go_wp2_with first
    | (go_at_call 7; have _t := HY; refine (wakes_any _).mono ?_; rintro e w1 ⟨rfl, hB1⟩; have H1 : Hid (Bytes w1 a m L ∧ Below w.heap.size w w1) := ⟨bytes_below HY.out hB1, hB1⟩; clear HY _t hB1)
    | (refine wpList_minR _ rfl _ _ rfl n 8192 _ rfl rfl rfl ?_; rw [← HM.out])
    | (go_at_call 10; refine (HD1.out _ H1.out.1).mono ?_; clear HD1; rintro e w2 ⟨⟨v, rfl, hO2⟩, hB2⟩; have H2 : Hid (ObAt o v w2 ∧ Bytes w2 a m L ∧ Below w.heap.size w w2) := ⟨hO2, bytes_below H1.out.1 hB2, H1.out.2.trans (hB2.mono H1.out.2.size)⟩; have hta := ob_not hO2 HBB.out; clear H1 hB2 hO2)
    | (go_at_call 8; refine (HE.out _ _ H2.out.1).mono ?_; clear HE; rintro e w3 ⟨ea, ec, rfl, hy3, hB3⟩; have H3 : Hid (ObAt o v w3 ∧ Bytes w3 a m L ∧ Below w.heap.size w w3 ∧ Bytes w3 ea m L) := ⟨H2.out.1.below hB3, bytes_below H2.out.2.1 hB3, H2.out.2.2.trans (hB3.mono H2.out.2.2.size), hy3⟩; clear H2 hB3 hy3)
    | (go_at_call 12; refine (equal_yes _ ea a m m ec c L H3.out.2.2.2 H3.out.2.1).mono ?_; rintro e w4 ⟨rfl, h4⟩; subst h4)
    | (go_at_call 13; refine (HKd.out _ _ H3.out.1).mono ?_; rintro e w4 ⟨rfl, h4⟩; subst h4; have hr0 : (w4.alloc (.cells #[] 5)).ownsRow w4.heap.size 5 1 (.slice (some ⟨w4.heap.size, 0, none⟩) 0 0) 0 [] := World.ownsRow_made w4 #[] 0 (Nat.le_refl _) (by unfold maxLen; omega) rfl; have hyA : Bytes (w4.alloc (.cells #[] 5)) a m L := bytes_below H3.out.2.1 ((Below.refl _ _).alloc (Nat.le_refl _) _))
    | (at_builtin; refine wpList_app _ w4.heap.size (by simp) rfl _ _ rfl (.slice (some ⟨w4.heap.size, 0, none⟩) 0 0) 0 [] rfl hr0 a m c L rfl hyA HN.out (by omega) ?_; intro v5 w5 ho5 hg5 _; have B5 : Below w4.heap.size w4 w5 := ((Below.refl _ _).alloc (Nat.le_refl _) _).trans (below_gr hr0 (by simp) hg5); have H5 : Hid (w5.ownsRow w4.heap.size 5 1 v5 (0 + m) ([] ++ cellsOf L) ∧ Below w4.heap.size w4 w5) := ⟨ho5, B5⟩; clear ho5 hg5 hr0 hyA B5)
    | (at_builtin; refine wpList_app _ w4.heap.size (by have := H5.out.2.size; simp; omega) rfl _ _ rfl v5 (0 + m) _ rfl (H5.out.1.alloc _) (some ⟨w5.heap.size, 0, none⟩) 1 1 [X] rfl (bytes_new w5 [X] _ HX.out) (fun h => by cases h) (by omega) ?_; intro v6 w6 ho6 hg6 _; have B6 : Below w4.heap.size w4 w6 := (H5.out.2.alloc H5.out.2.size _).trans (below_gr (H5.out.1.alloc _) (by have := H5.out.2.size; simp; omega) hg6); obtain ⟨ad6, cp6, hv6, hy6⟩ := own_more HLn.out ho6; subst hv6; have H6 : Hid (ObAt o v w6 ∧ Bytes w6 a m L ∧ Below w.heap.size w w6 ∧ Bytes w6 (some ad6) (m + 1) (L ++ [X])) := ⟨H3.out.1.below B6, bytes_below H3.out.2.1 B6, H3.out.2.2.1.trans (B6.mono H3.out.2.2.1.size), hy6⟩; clear H3 H5 ho6 hg6 B6 hy6)
    | (go_at_call 10; refine (HD2.out _ _ _ H6.out.2.2.2).mono ?_; clear HD2; rintro e w7 ⟨hO7, hB7⟩; have hy : e = .returned (.tuple #[.nilIface, .int .i64 8]) := hO7; subst hy; have H7 : Hid (ObAt o v w7 ∧ Bytes w7 a m L ∧ Below w.heap.size w w7) := ⟨H6.out.1.below hB7, bytes_below H6.out.2.1 hB7, H6.out.2.2.1.trans (hB7.mono H6.out.2.2.1.size)⟩; clear H6 hB7)
    | (go_at_call 10; refine (HD3.out _ H7.out.2.1).mono ?_; clear HD3; rintro e w8 ⟨hO8, hB8⟩; have hy : e = .returned (.tuple #[.nilIface, .int .i64 8]) := hO8; subst hy; have H8 : Hid (ObAt o v (w8.alloc (.cells #[.slice none 0 0] 31)) ∧ Below w.heap.size w (w8.alloc (.cells #[.slice none 0 0] 31))) := ⟨(H7.out.1.below hB8).below ((Below.refl _ _).alloc (Nat.le_refl _) _), (H7.out.2.2.trans (hB8.mono H7.out.2.2.size)).alloc (H7.out.2.2.trans (hB8.mono H7.out.2.2.size)).size _⟩; clear H7 hB8)
    | (go_at_call 7; refine (wakes_any _).mono ?_; rintro e w11 ⟨rfl, hB11⟩)
  go_ret
  exact ⟨rfl, H8.out.2.trans (hB11.mono H8.out.2.size)⟩

set_option maxRecDepth 100000 in
set_option maxHeartbeats 8000000 in
theorem bytes_00 (a : Option Addr) (n c m m' : Nat) (L : List UInt8) (x : Int) (X : UInt8) (hX : x = (X.toNat : Int)) (w : World) (hm : m = min n 8192) (HYY : Bytes w a m L) (hmc : m ≤ c) (hnil : a = none → m = 0 ∧ c = 0) (hm' : m = m' + 1) (o : Ob) (hD : decG L = some o) (hDD : DD L X o) (hBl : isBlob o = true) (hG2 : decG (L ++ [X]) = none) (hG3 : decG (L.take m') = none) :
    Calls Try.prog 4 #[.slice a n c, .int .u8 x] w fun e w' => e = .returned (.bool true) ∧ Below w.heap.size w w' := by
  have HM : Hid (m = min n 8192) := hm
  have hm9 : m ≤ 8192 := by omega
  have im : (m : Int) ≤ (c : Int) := by omega
  have HY : Hid (Bytes w a m L) := HYY
  have HN : Hid (a = none → m = 0 ∧ c = 0) := hnil
  clear hm HYY hnil
  have Hm' : Hid (m = m' + 1) := hm'
  have i8 : (m : Int) - 1 = (m' : Int) := by omega
  have i9 : (m' : Int) ≤ (c : Int) := by omega
  have i11 : IntKind.i64.wrap (m' : Int) = (m' : Int) := by simp [IntKind.wrap, IntKind.bits, IntKind.signed]; omega
  have HLn : Hid (L.length = m) := HY.out.1
  have HD1 : Hid (∀ W, Bytes W a m L → Calls Try.prog 10 #[.slice a m c] W fun y w' => (∃ v, y = .returned (.tuple #[v, .int .i64 0]) ∧ ObAt o v w') ∧ Below W.heap.size W w') := fun W h => by
    have := Decode_any a m c L W h (by omega)
    rw [hD] at this
    exact this
  have HE : Hid (∀ W v, ObAt o v W → Calls Try.prog 8 #[v] W fun e w' => ∃ ad cp, e = .returned (.tuple #[.slice ad m cp, .int .i64 0]) ∧ Bytes w' ad m L ∧ Below W.heap.size W w') := fun W v h => by
    have := Encode_ob W h hDD.err
    rw [hDD.eq, HLn.out] at this
    exact this
  obtain ⟨K, hK⟩ : ∃ K, K = obK o := ⟨_, rfl⟩
  have hK0 : (K == 0) = false := by rw [hK]; simp [hDD.kind]
  have HKd : Hid (∀ W v, ObAt o v W → Calls Try.prog 13 #[v] W fun e w' => e = .returned (.int .i64 K) ∧ w' = W) := fun W v h => by rw [hK]; exact Kind_ob W h
  have HD2 : Hid (∀ W ad cp, Bytes W (some ad) (m + 1) (L ++ [X]) → Calls Try.prog 10 #[.slice (some ad) (m + 1) cp] W fun y w' => GotO none y w' ∧ Below W.heap.size W w') := fun W ad cp h => by
    have := Decode_any (some ad) (m + 1) cp (L ++ [X]) W h (by omega)
    rw [hG2] at this
    exact this
  have HD3 : Hid (∀ W, Bytes W a m L → Calls Try.prog 10 #[.slice a m' c] W fun y w' => GotO none y w' ∧ Below W.heap.size W w') := fun W h => by
    have h1 := Bytes.takeR h m' (by omega)
    have := Decode_any a m' c (L.take m') W h1 (by omega)
    rw [hG3] at this
    exact this
  have HX : Hid ((#[Value.int .u8 x] : Array Value) = (cellsOf [X]).toArray) := cells_byte x X hX
  have HBB : Hid (isBlob o = true) := hBl
  clear hD hX hm' hDD hK hBl hG2 hG3
  go_enter Try.func4, Try.ntmps4
  go_wp2_with first
    | (go_at_call 7; have _t := HY; refine (wakes_any _).mono ?_; rintro e w1 ⟨rfl, hB1⟩; have H1 : Hid (Bytes w1 a m L ∧ Below w.heap.size w w1) := ⟨bytes_below HY.out hB1, hB1⟩; clear HY _t hB1)
    | (refine wpList_minR _ rfl _ _ rfl n 8192 _ rfl rfl rfl ?_; rw [← HM.out])
    | (go_at_call 10; refine (HD1.out _ H1.out.1).mono ?_; clear HD1; rintro e w2 ⟨⟨v, rfl, hO2⟩, hB2⟩; have H2 : Hid (ObAt o v w2 ∧ Bytes w2 a m L ∧ Below w.heap.size w w2) := ⟨hO2, bytes_below H1.out.1 hB2, H1.out.2.trans (hB2.mono H1.out.2.size)⟩; obtain ⟨ba, bn, bcp, hta⟩ := ob_is hO2 HBB.out; clear H1 hB2 hO2)
    | (go_at_call 8; refine (HE.out _ _ H2.out.1).mono ?_; clear HE; rintro e w3 ⟨ea, ec, rfl, hy3, hB3⟩; have H3 : Hid (ObAt o v w3 ∧ Bytes w3 a m L ∧ Below w.heap.size w w3 ∧ Bytes w3 ea m L) := ⟨H2.out.1.below hB3, bytes_below H2.out.2.1 hB3, H2.out.2.2.trans (hB3.mono H2.out.2.2.size), hy3⟩; clear H2 hB3 hy3)
    | (go_at_call 12; refine (equal_yes _ ea a m m ec c L H3.out.2.2.2 H3.out.2.1).mono ?_; rintro e w4 ⟨rfl, h4⟩; subst h4)
    | (go_at_call 13; refine (HKd.out _ _ H3.out.1).mono ?_; rintro e w4 ⟨rfl, h4⟩; subst h4; have hr0 : (w4.alloc (.cells #[] 5)).ownsRow w4.heap.size 5 1 (.slice (some ⟨w4.heap.size, 0, none⟩) 0 0) 0 [] := World.ownsRow_made w4 #[] 0 (Nat.le_refl _) (by unfold maxLen; omega) rfl; have hyA : Bytes (w4.alloc (.cells #[] 5)) a m L := bytes_below H3.out.2.1 ((Below.refl _ _).alloc (Nat.le_refl _) _))
    | (at_builtin; refine wpList_app _ w4.heap.size (by simp) rfl _ _ rfl (.slice (some ⟨w4.heap.size, 0, none⟩) 0 0) 0 [] rfl hr0 a m c L rfl hyA HN.out (by omega) ?_; intro v5 w5 ho5 hg5 _; have B5 : Below w4.heap.size w4 w5 := ((Below.refl _ _).alloc (Nat.le_refl _) _).trans (below_gr hr0 (by simp) hg5); have H5 : Hid (w5.ownsRow w4.heap.size 5 1 v5 (0 + m) ([] ++ cellsOf L) ∧ Below w4.heap.size w4 w5) := ⟨ho5, B5⟩; clear ho5 hg5 hr0 hyA B5)
    | (at_builtin; refine wpList_app _ w4.heap.size (by have := H5.out.2.size; simp; omega) rfl _ _ rfl v5 (0 + m) _ rfl (H5.out.1.alloc _) (some ⟨w5.heap.size, 0, none⟩) 1 1 [X] rfl (bytes_new w5 [X] _ HX.out) (fun h => by cases h) (by omega) ?_; intro v6 w6 ho6 hg6 _; have B6 : Below w4.heap.size w4 w6 := (H5.out.2.alloc H5.out.2.size _).trans (below_gr (H5.out.1.alloc _) (by have := H5.out.2.size; simp; omega) hg6); obtain ⟨ad6, cp6, hv6, hy6⟩ := own_more HLn.out ho6; subst hv6; have H6 : Hid (ObAt o v w6 ∧ Bytes w6 a m L ∧ Below w.heap.size w w6 ∧ Bytes w6 (some ad6) (m + 1) (L ++ [X])) := ⟨H3.out.1.below B6, bytes_below H3.out.2.1 B6, H3.out.2.2.1.trans (B6.mono H3.out.2.2.1.size), hy6⟩; clear H3 H5 ho6 hg6 B6 hy6)
    | (go_at_call 10; refine (HD2.out _ _ _ H6.out.2.2.2).mono ?_; clear HD2; rintro e w7 ⟨hO7, hB7⟩; have hy : e = .returned (.tuple #[.nilIface, .int .i64 8]) := hO7; subst hy; have H7 : Hid (ObAt o v w7 ∧ Bytes w7 a m L ∧ Below w.heap.size w w7) := ⟨H6.out.1.below hB7, bytes_below H6.out.2.1 hB7, H6.out.2.2.1.trans (hB7.mono H6.out.2.2.1.size)⟩; clear H6 hB7)
    | (go_at_call 10; refine (HD3.out _ H7.out.2.1).mono ?_; clear HD3; rintro e w8 ⟨hO8, hB8⟩; have hy : e = .returned (.tuple #[.nilIface, .int .i64 8]) := hO8; subst hy; have H8 : Hid (ObAt o v (w8.alloc (.cells #[.slice ba bn bcp] 31)) ∧ Below w.heap.size w (w8.alloc (.cells #[.slice ba bn bcp] 31))) := ⟨(H7.out.1.below hB8).below ((Below.refl _ _).alloc (Nat.le_refl _) _), (H7.out.2.2.trans (hB8.mono H7.out.2.2.size)).alloc (H7.out.2.2.trans (hB8.mono H7.out.2.2.size)).size _⟩; clear H7 hB8)
    | (go_at_call 7; refine (wakes_any _).mono ?_; rintro e w11 ⟨rfl, hB11⟩)
  go_ret
  exact ⟨rfl, H8.out.2.trans (hB11.mono H8.out.2.size)⟩

set_option maxRecDepth 100000 in
set_option maxHeartbeats 8000000 in
theorem bytes_10 (a : Option Addr) (n c m m' : Nat) (L : List UInt8) (x : Int) (X : UInt8) (hX : x = (X.toNat : Int)) (w : World) (hm : m = min n 8192) (HYY : Bytes w a m L) (hmc : m ≤ c) (hnil : a = none → m = 0 ∧ c = 0) (hm' : m = m' + 1) (o : Ob) (hD : decG L = some o) (hDD : DD L X o) (hBl : isBlob o = true) (o2 : Ob) (hG2 : decG (L ++ [X]) = some o2) (he2 : obErr o2 = 0) (hn2 : ¬ obB o = obB o2) (hG3 : decG (L.take m') = none) :
    Calls Try.prog 4 #[.slice a n c, .int .u8 x] w fun e w' => e = .returned (.bool true) ∧ Below w.heap.size w w' := by
  have HM : Hid (m = min n 8192) := hm
  have hm9 : m ≤ 8192 := by omega
  have im : (m : Int) ≤ (c : Int) := by omega
  have HY : Hid (Bytes w a m L) := HYY
  have HN : Hid (a = none → m = 0 ∧ c = 0) := hnil
  clear hm HYY hnil
  have Hm' : Hid (m = m' + 1) := hm'
  have i8 : (m : Int) - 1 = (m' : Int) := by omega
  have i9 : (m' : Int) ≤ (c : Int) := by omega
  have i11 : IntKind.i64.wrap (m' : Int) = (m' : Int) := by simp [IntKind.wrap, IntKind.bits, IntKind.signed]; omega
  have HLn : Hid (L.length = m) := HY.out.1
  have HD1 : Hid (∀ W, Bytes W a m L → Calls Try.prog 10 #[.slice a m c] W fun y w' => (∃ v, y = .returned (.tuple #[v, .int .i64 0]) ∧ ObAt o v w') ∧ Below W.heap.size W w') := fun W h => by
    have := Decode_any a m c L W h (by omega)
    rw [hD] at this
    exact this
  have HE : Hid (∀ W v, ObAt o v W → Calls Try.prog 8 #[v] W fun e w' => ∃ ad cp, e = .returned (.tuple #[.slice ad m cp, .int .i64 0]) ∧ Bytes w' ad m L ∧ Below W.heap.size W w') := fun W v h => by
    have := Encode_ob W h hDD.err
    rw [hDD.eq, HLn.out] at this
    exact this
  obtain ⟨K, hK⟩ : ∃ K, K = obK o := ⟨_, rfl⟩
  have hK0 : (K == 0) = false := by rw [hK]; simp [hDD.kind]
  have HKd : Hid (∀ W v, ObAt o v W → Calls Try.prog 13 #[v] W fun e w' => e = .returned (.int .i64 K) ∧ w' = W) := fun W v h => by rw [hK]; exact Kind_ob W h
  have HD2 : Hid (∀ W ad cp, Bytes W (some ad) (m + 1) (L ++ [X]) → Calls Try.prog 10 #[.slice (some ad) (m + 1) cp] W fun y w' => GotO (some o2) y w' ∧ Below W.heap.size W w') := fun W ad cp h => by
    have := Decode_any (some ad) (m + 1) cp (L ++ [X]) W h (by omega)
    rw [hG2] at this
    exact this
  have HD3 : Hid (∀ W, Bytes W a m L → Calls Try.prog 10 #[.slice a m' c] W fun y w' => GotO none y w' ∧ Below W.heap.size W w') := fun W h => by
    have h1 := Bytes.takeR h m' (by omega)
    have := Decode_any a m' c (L.take m') W h1 (by omega)
    rw [hG3] at this
    exact this
  have HX : Hid ((#[Value.int .u8 x] : Array Value) = (cellsOf [X]).toArray) := cells_byte x X hX
  have HS2 : Hid (∀ W v v2, ObAt o v W → ObAt o2 v2 W → Calls Try.prog 14 #[v, v2] W fun e w' => e = .returned (.bool false) ∧ Below W.heap.size W w') := fun W v v2 h h' => by
    have := Same_ob W h h' hDD.err he2
    rw [decide_eq_false hn2] at this
    exact this
  have HBB : Hid (isBlob o = true) := hBl
  clear hD hX hm' hDD hK hBl hG2 hG3 he2 hn2
  go_enter Try.func4, Try.ntmps4
  go_wp2_with first
    | (go_at_call 7; have _t := HY; refine (wakes_any _).mono ?_; rintro e w1 ⟨rfl, hB1⟩; have H1 : Hid (Bytes w1 a m L ∧ Below w.heap.size w w1) := ⟨bytes_below HY.out hB1, hB1⟩; clear HY _t hB1)
    | (refine wpList_minR _ rfl _ _ rfl n 8192 _ rfl rfl rfl ?_; rw [← HM.out])
    | (go_at_call 10; refine (HD1.out _ H1.out.1).mono ?_; clear HD1; rintro e w2 ⟨⟨v, rfl, hO2⟩, hB2⟩; have H2 : Hid (ObAt o v w2 ∧ Bytes w2 a m L ∧ Below w.heap.size w w2) := ⟨hO2, bytes_below H1.out.1 hB2, H1.out.2.trans (hB2.mono H1.out.2.size)⟩; obtain ⟨ba, bn, bcp, hta⟩ := ob_is hO2 HBB.out; clear H1 hB2 hO2)
    | (go_at_call 8; refine (HE.out _ _ H2.out.1).mono ?_; clear HE; rintro e w3 ⟨ea, ec, rfl, hy3, hB3⟩; have H3 : Hid (ObAt o v w3 ∧ Bytes w3 a m L ∧ Below w.heap.size w w3 ∧ Bytes w3 ea m L) := ⟨H2.out.1.below hB3, bytes_below H2.out.2.1 hB3, H2.out.2.2.trans (hB3.mono H2.out.2.2.size), hy3⟩; clear H2 hB3 hy3)
    | (go_at_call 12; refine (equal_yes _ ea a m m ec c L H3.out.2.2.2 H3.out.2.1).mono ?_; rintro e w4 ⟨rfl, h4⟩; subst h4)
    | (go_at_call 13; refine (HKd.out _ _ H3.out.1).mono ?_; rintro e w4 ⟨rfl, h4⟩; subst h4; have hr0 : (w4.alloc (.cells #[] 5)).ownsRow w4.heap.size 5 1 (.slice (some ⟨w4.heap.size, 0, none⟩) 0 0) 0 [] := World.ownsRow_made w4 #[] 0 (Nat.le_refl _) (by unfold maxLen; omega) rfl; have hyA : Bytes (w4.alloc (.cells #[] 5)) a m L := bytes_below H3.out.2.1 ((Below.refl _ _).alloc (Nat.le_refl _) _))
    | (at_builtin; refine wpList_app _ w4.heap.size (by simp) rfl _ _ rfl (.slice (some ⟨w4.heap.size, 0, none⟩) 0 0) 0 [] rfl hr0 a m c L rfl hyA HN.out (by omega) ?_; intro v5 w5 ho5 hg5 _; have B5 : Below w4.heap.size w4 w5 := ((Below.refl _ _).alloc (Nat.le_refl _) _).trans (below_gr hr0 (by simp) hg5); have H5 : Hid (w5.ownsRow w4.heap.size 5 1 v5 (0 + m) ([] ++ cellsOf L) ∧ Below w4.heap.size w4 w5) := ⟨ho5, B5⟩; clear ho5 hg5 hr0 hyA B5)
    | (at_builtin; refine wpList_app _ w4.heap.size (by have := H5.out.2.size; simp; omega) rfl _ _ rfl v5 (0 + m) _ rfl (H5.out.1.alloc _) (some ⟨w5.heap.size, 0, none⟩) 1 1 [X] rfl (bytes_new w5 [X] _ HX.out) (fun h => by cases h) (by omega) ?_; intro v6 w6 ho6 hg6 _; have B6 : Below w4.heap.size w4 w6 := (H5.out.2.alloc H5.out.2.size _).trans (below_gr (H5.out.1.alloc _) (by have := H5.out.2.size; simp; omega) hg6); obtain ⟨ad6, cp6, hv6, hy6⟩ := own_more HLn.out ho6; subst hv6; have H6 : Hid (ObAt o v w6 ∧ Bytes w6 a m L ∧ Below w.heap.size w w6 ∧ Bytes w6 (some ad6) (m + 1) (L ++ [X])) := ⟨H3.out.1.below B6, bytes_below H3.out.2.1 B6, H3.out.2.2.1.trans (B6.mono H3.out.2.2.1.size), hy6⟩; clear H3 H5 ho6 hg6 B6 hy6)
    | (go_at_call 10; refine (HD2.out _ _ _ H6.out.2.2.2).mono ?_; clear HD2; rintro e w7 ⟨hO7, hB7⟩; obtain ⟨v2, hy, hO7'⟩ := hO7; subst hy; have H7 : Hid (ObAt o v w7 ∧ Bytes w7 a m L ∧ Below w.heap.size w w7 ∧ ObAt o2 v2 w7) := ⟨H6.out.1.below hB7, bytes_below H6.out.2.1 hB7, H6.out.2.2.1.trans (hB7.mono H6.out.2.2.1.size), hO7'⟩; clear H6 hB7)
    | (go_at_call 10; refine (HD3.out _ H7.out.2.1).mono ?_; clear HD3; rintro e w8 ⟨hO8, hB8⟩; have hy : e = .returned (.tuple #[.nilIface, .int .i64 8]) := hO8; subst hy; have H8 : Hid (ObAt o v (w8.alloc (.cells #[.slice ba bn bcp] 31)) ∧ Below w.heap.size w (w8.alloc (.cells #[.slice ba bn bcp] 31)) ∧ ObAt o2 v2 (w8.alloc (.cells #[.slice ba bn bcp] 31))) := ⟨(H7.out.1.below hB8).below ((Below.refl _ _).alloc (Nat.le_refl _) _), (H7.out.2.2.1.trans (hB8.mono H7.out.2.2.1.size)).alloc (H7.out.2.2.1.trans (hB8.mono H7.out.2.2.1.size)).size _, (H7.out.2.2.2.below hB8).below ((Below.refl _ _).alloc (Nat.le_refl _) _)⟩; clear H7 hB8)
    | (go_at_call 14; refine (HS2.out _ _ _ H8.out.1 H8.out.2.2).mono ?_; clear HS2; rintro e w9 ⟨rfl, hB9⟩; have H9 : Hid (ObAt o v w9 ∧ Below w.heap.size w w9) := ⟨H8.out.1.below hB9, H8.out.2.1.trans (hB9.mono H8.out.2.1.size)⟩; clear H8 hB9)
    | (go_at_call 7; refine (wakes_any _).mono ?_; rintro e w11 ⟨rfl, hB11⟩)
  go_ret
  exact ⟨rfl, H9.out.2.trans (hB11.mono H9.out.2.size)⟩

set_option maxRecDepth 100000 in
set_option maxHeartbeats 8000000 in
theorem bytes_01 (a : Option Addr) (n c m m' : Nat) (L : List UInt8) (x : Int) (X : UInt8) (hX : x = (X.toNat : Int)) (w : World) (hm : m = min n 8192) (HYY : Bytes w a m L) (hmc : m ≤ c) (hnil : a = none → m = 0 ∧ c = 0) (hm' : m = m' + 1) (o : Ob) (hD : decG L = some o) (hDD : DD L X o) (hBl : isBlob o = true) (hG2 : decG (L ++ [X]) = none) (o3 : Ob) (hG3 : decG (L.take m') = some o3) (he3 : obErr o3 = 0) (hn3 : ¬ obB o = obB o3) :
    Calls Try.prog 4 #[.slice a n c, .int .u8 x] w fun e w' => e = .returned (.bool true) ∧ Below w.heap.size w w' := by
  have HM : Hid (m = min n 8192) := hm
  have hm9 : m ≤ 8192 := by omega
  have im : (m : Int) ≤ (c : Int) := by omega
  have HY : Hid (Bytes w a m L) := HYY
  have HN : Hid (a = none → m = 0 ∧ c = 0) := hnil
  clear hm HYY hnil
  have Hm' : Hid (m = m' + 1) := hm'
  have i8 : (m : Int) - 1 = (m' : Int) := by omega
  have i9 : (m' : Int) ≤ (c : Int) := by omega
  have i11 : IntKind.i64.wrap (m' : Int) = (m' : Int) := by simp [IntKind.wrap, IntKind.bits, IntKind.signed]; omega
  have HLn : Hid (L.length = m) := HY.out.1
  have HD1 : Hid (∀ W, Bytes W a m L → Calls Try.prog 10 #[.slice a m c] W fun y w' => (∃ v, y = .returned (.tuple #[v, .int .i64 0]) ∧ ObAt o v w') ∧ Below W.heap.size W w') := fun W h => by
    have := Decode_any a m c L W h (by omega)
    rw [hD] at this
    exact this
  have HE : Hid (∀ W v, ObAt o v W → Calls Try.prog 8 #[v] W fun e w' => ∃ ad cp, e = .returned (.tuple #[.slice ad m cp, .int .i64 0]) ∧ Bytes w' ad m L ∧ Below W.heap.size W w') := fun W v h => by
    have := Encode_ob W h hDD.err
    rw [hDD.eq, HLn.out] at this
    exact this
  obtain ⟨K, hK⟩ : ∃ K, K = obK o := ⟨_, rfl⟩
  have hK0 : (K == 0) = false := by rw [hK]; simp [hDD.kind]
  have HKd : Hid (∀ W v, ObAt o v W → Calls Try.prog 13 #[v] W fun e w' => e = .returned (.int .i64 K) ∧ w' = W) := fun W v h => by rw [hK]; exact Kind_ob W h
  have HD2 : Hid (∀ W ad cp, Bytes W (some ad) (m + 1) (L ++ [X]) → Calls Try.prog 10 #[.slice (some ad) (m + 1) cp] W fun y w' => GotO none y w' ∧ Below W.heap.size W w') := fun W ad cp h => by
    have := Decode_any (some ad) (m + 1) cp (L ++ [X]) W h (by omega)
    rw [hG2] at this
    exact this
  have HD3 : Hid (∀ W, Bytes W a m L → Calls Try.prog 10 #[.slice a m' c] W fun y w' => GotO (some o3) y w' ∧ Below W.heap.size W w') := fun W h => by
    have h1 := Bytes.takeR h m' (by omega)
    have := Decode_any a m' c (L.take m') W h1 (by omega)
    rw [hG3] at this
    exact this
  have HX : Hid ((#[Value.int .u8 x] : Array Value) = (cellsOf [X]).toArray) := cells_byte x X hX
  have HS3 : Hid (∀ W v v2, ObAt o v W → ObAt o3 v2 W → Calls Try.prog 14 #[v, v2] W fun e w' => e = .returned (.bool false) ∧ Below W.heap.size W w') := fun W v v2 h h' => by
    have := Same_ob W h h' hDD.err he3
    rw [decide_eq_false hn3] at this
    exact this
  have HBB : Hid (isBlob o = true) := hBl
  clear hD hX hm' hDD hK hBl hG2 hG3 he3 hn3
  go_enter Try.func4, Try.ntmps4
  go_wp2_with first
    | (go_at_call 7; have _t := HY; refine (wakes_any _).mono ?_; rintro e w1 ⟨rfl, hB1⟩; have H1 : Hid (Bytes w1 a m L ∧ Below w.heap.size w w1) := ⟨bytes_below HY.out hB1, hB1⟩; clear HY _t hB1)
    | (refine wpList_minR _ rfl _ _ rfl n 8192 _ rfl rfl rfl ?_; rw [← HM.out])
    | (go_at_call 10; refine (HD1.out _ H1.out.1).mono ?_; clear HD1; rintro e w2 ⟨⟨v, rfl, hO2⟩, hB2⟩; have H2 : Hid (ObAt o v w2 ∧ Bytes w2 a m L ∧ Below w.heap.size w w2) := ⟨hO2, bytes_below H1.out.1 hB2, H1.out.2.trans (hB2.mono H1.out.2.size)⟩; obtain ⟨ba, bn, bcp, hta⟩ := ob_is hO2 HBB.out; clear H1 hB2 hO2)
    | (go_at_call 8; refine (HE.out _ _ H2.out.1).mono ?_; clear HE; rintro e w3 ⟨ea, ec, rfl, hy3, hB3⟩; have H3 : Hid (ObAt o v w3 ∧ Bytes w3 a m L ∧ Below w.heap.size w w3 ∧ Bytes w3 ea m L) := ⟨H2.out.1.below hB3, bytes_below H2.out.2.1 hB3, H2.out.2.2.trans (hB3.mono H2.out.2.2.size), hy3⟩; clear H2 hB3 hy3)
    | (go_at_call 12; refine (equal_yes _ ea a m m ec c L H3.out.2.2.2 H3.out.2.1).mono ?_; rintro e w4 ⟨rfl, h4⟩; subst h4)
    | (go_at_call 13; refine (HKd.out _ _ H3.out.1).mono ?_; rintro e w4 ⟨rfl, h4⟩; subst h4; have hr0 : (w4.alloc (.cells #[] 5)).ownsRow w4.heap.size 5 1 (.slice (some ⟨w4.heap.size, 0, none⟩) 0 0) 0 [] := World.ownsRow_made w4 #[] 0 (Nat.le_refl _) (by unfold maxLen; omega) rfl; have hyA : Bytes (w4.alloc (.cells #[] 5)) a m L := bytes_below H3.out.2.1 ((Below.refl _ _).alloc (Nat.le_refl _) _))
    | (at_builtin; refine wpList_app _ w4.heap.size (by simp) rfl _ _ rfl (.slice (some ⟨w4.heap.size, 0, none⟩) 0 0) 0 [] rfl hr0 a m c L rfl hyA HN.out (by omega) ?_; intro v5 w5 ho5 hg5 _; have B5 : Below w4.heap.size w4 w5 := ((Below.refl _ _).alloc (Nat.le_refl _) _).trans (below_gr hr0 (by simp) hg5); have H5 : Hid (w5.ownsRow w4.heap.size 5 1 v5 (0 + m) ([] ++ cellsOf L) ∧ Below w4.heap.size w4 w5) := ⟨ho5, B5⟩; clear ho5 hg5 hr0 hyA B5)
    | (at_builtin; refine wpList_app _ w4.heap.size (by have := H5.out.2.size; simp; omega) rfl _ _ rfl v5 (0 + m) _ rfl (H5.out.1.alloc _) (some ⟨w5.heap.size, 0, none⟩) 1 1 [X] rfl (bytes_new w5 [X] _ HX.out) (fun h => by cases h) (by omega) ?_; intro v6 w6 ho6 hg6 _; have B6 : Below w4.heap.size w4 w6 := (H5.out.2.alloc H5.out.2.size _).trans (below_gr (H5.out.1.alloc _) (by have := H5.out.2.size; simp; omega) hg6); obtain ⟨ad6, cp6, hv6, hy6⟩ := own_more HLn.out ho6; subst hv6; have H6 : Hid (ObAt o v w6 ∧ Bytes w6 a m L ∧ Below w.heap.size w w6 ∧ Bytes w6 (some ad6) (m + 1) (L ++ [X])) := ⟨H3.out.1.below B6, bytes_below H3.out.2.1 B6, H3.out.2.2.1.trans (B6.mono H3.out.2.2.1.size), hy6⟩; clear H3 H5 ho6 hg6 B6 hy6)
    | (go_at_call 10; refine (HD2.out _ _ _ H6.out.2.2.2).mono ?_; clear HD2; rintro e w7 ⟨hO7, hB7⟩; have hy : e = .returned (.tuple #[.nilIface, .int .i64 8]) := hO7; subst hy; have H7 : Hid (ObAt o v w7 ∧ Bytes w7 a m L ∧ Below w.heap.size w w7) := ⟨H6.out.1.below hB7, bytes_below H6.out.2.1 hB7, H6.out.2.2.1.trans (hB7.mono H6.out.2.2.1.size)⟩; clear H6 hB7)
    | (go_at_call 10; refine (HD3.out _ H7.out.2.1).mono ?_; clear HD3; rintro e w8 ⟨hO8, hB8⟩; obtain ⟨v3, hy, hO8'⟩ := hO8; subst hy; have H8 : Hid (ObAt o v (w8.alloc (.cells #[.slice ba bn bcp] 31)) ∧ Below w.heap.size w (w8.alloc (.cells #[.slice ba bn bcp] 31)) ∧ ObAt o3 v3 (w8.alloc (.cells #[.slice ba bn bcp] 31))) := ⟨(H7.out.1.below hB8).below ((Below.refl _ _).alloc (Nat.le_refl _) _), (H7.out.2.2.trans (hB8.mono H7.out.2.2.size)).alloc (H7.out.2.2.trans (hB8.mono H7.out.2.2.size)).size _, hO8'.below ((Below.refl _ _).alloc (Nat.le_refl _) _)⟩; clear H7 hB8)
    | (go_at_call 14; refine (HS3.out _ _ _ H8.out.1 H8.out.2.2).mono ?_; clear HS3; rintro e w10 ⟨rfl, hB10⟩; have H10 : Hid (Below w.heap.size w w10) := H8.out.2.1.trans (hB10.mono H8.out.2.1.size); clear H8 hB10)
    | (go_at_call 7; refine (wakes_any _).mono ?_; rintro e w11 ⟨rfl, hB11⟩)
  go_ret
  exact ⟨rfl, H10.out.trans (hB11.mono H10.out.size)⟩

set_option maxRecDepth 100000 in
set_option maxHeartbeats 8000000 in
theorem bytes_11 (a : Option Addr) (n c m m' : Nat) (L : List UInt8) (x : Int) (X : UInt8) (hX : x = (X.toNat : Int)) (w : World) (hm : m = min n 8192) (HYY : Bytes w a m L) (hmc : m ≤ c) (hnil : a = none → m = 0 ∧ c = 0) (hm' : m = m' + 1) (o : Ob) (hD : decG L = some o) (hDD : DD L X o) (hBl : isBlob o = true) (o2 : Ob) (hG2 : decG (L ++ [X]) = some o2) (he2 : obErr o2 = 0) (hn2 : ¬ obB o = obB o2) (o3 : Ob) (hG3 : decG (L.take m') = some o3) (he3 : obErr o3 = 0) (hn3 : ¬ obB o = obB o3) :
    Calls Try.prog 4 #[.slice a n c, .int .u8 x] w fun e w' => e = .returned (.bool true) ∧ Below w.heap.size w w' := by
  have HM : Hid (m = min n 8192) := hm
  have hm9 : m ≤ 8192 := by omega
  have im : (m : Int) ≤ (c : Int) := by omega
  have HY : Hid (Bytes w a m L) := HYY
  have HN : Hid (a = none → m = 0 ∧ c = 0) := hnil
  clear hm HYY hnil
  have Hm' : Hid (m = m' + 1) := hm'
  have i8 : (m : Int) - 1 = (m' : Int) := by omega
  have i9 : (m' : Int) ≤ (c : Int) := by omega
  have i11 : IntKind.i64.wrap (m' : Int) = (m' : Int) := by simp [IntKind.wrap, IntKind.bits, IntKind.signed]; omega
  have HLn : Hid (L.length = m) := HY.out.1
  have HD1 : Hid (∀ W, Bytes W a m L → Calls Try.prog 10 #[.slice a m c] W fun y w' => (∃ v, y = .returned (.tuple #[v, .int .i64 0]) ∧ ObAt o v w') ∧ Below W.heap.size W w') := fun W h => by
    have := Decode_any a m c L W h (by omega)
    rw [hD] at this
    exact this
  have HE : Hid (∀ W v, ObAt o v W → Calls Try.prog 8 #[v] W fun e w' => ∃ ad cp, e = .returned (.tuple #[.slice ad m cp, .int .i64 0]) ∧ Bytes w' ad m L ∧ Below W.heap.size W w') := fun W v h => by
    have := Encode_ob W h hDD.err
    rw [hDD.eq, HLn.out] at this
    exact this
  obtain ⟨K, hK⟩ : ∃ K, K = obK o := ⟨_, rfl⟩
  have hK0 : (K == 0) = false := by rw [hK]; simp [hDD.kind]
  have HKd : Hid (∀ W v, ObAt o v W → Calls Try.prog 13 #[v] W fun e w' => e = .returned (.int .i64 K) ∧ w' = W) := fun W v h => by rw [hK]; exact Kind_ob W h
  have HD2 : Hid (∀ W ad cp, Bytes W (some ad) (m + 1) (L ++ [X]) → Calls Try.prog 10 #[.slice (some ad) (m + 1) cp] W fun y w' => GotO (some o2) y w' ∧ Below W.heap.size W w') := fun W ad cp h => by
    have := Decode_any (some ad) (m + 1) cp (L ++ [X]) W h (by omega)
    rw [hG2] at this
    exact this
  have HD3 : Hid (∀ W, Bytes W a m L → Calls Try.prog 10 #[.slice a m' c] W fun y w' => GotO (some o3) y w' ∧ Below W.heap.size W w') := fun W h => by
    have h1 := Bytes.takeR h m' (by omega)
    have := Decode_any a m' c (L.take m') W h1 (by omega)
    rw [hG3] at this
    exact this
  have HX : Hid ((#[Value.int .u8 x] : Array Value) = (cellsOf [X]).toArray) := cells_byte x X hX
  have HS2 : Hid (∀ W v v2, ObAt o v W → ObAt o2 v2 W → Calls Try.prog 14 #[v, v2] W fun e w' => e = .returned (.bool false) ∧ Below W.heap.size W w') := fun W v v2 h h' => by
    have := Same_ob W h h' hDD.err he2
    rw [decide_eq_false hn2] at this
    exact this
  have HS3 : Hid (∀ W v v2, ObAt o v W → ObAt o3 v2 W → Calls Try.prog 14 #[v, v2] W fun e w' => e = .returned (.bool false) ∧ Below W.heap.size W w') := fun W v v2 h h' => by
    have := Same_ob W h h' hDD.err he3
    rw [decide_eq_false hn3] at this
    exact this
  have HBB : Hid (isBlob o = true) := hBl
  clear hD hX hm' hDD hK hBl hG2 hG3 he2 hn2 he3 hn3
  go_enter Try.func4, Try.ntmps4
  go_wp2_with first
    | (go_at_call 7; have _t := HY; refine (wakes_any _).mono ?_; rintro e w1 ⟨rfl, hB1⟩; have H1 : Hid (Bytes w1 a m L ∧ Below w.heap.size w w1) := ⟨bytes_below HY.out hB1, hB1⟩; clear HY _t hB1)
    | (refine wpList_minR _ rfl _ _ rfl n 8192 _ rfl rfl rfl ?_; rw [← HM.out])
    | (go_at_call 10; refine (HD1.out _ H1.out.1).mono ?_; clear HD1; rintro e w2 ⟨⟨v, rfl, hO2⟩, hB2⟩; have H2 : Hid (ObAt o v w2 ∧ Bytes w2 a m L ∧ Below w.heap.size w w2) := ⟨hO2, bytes_below H1.out.1 hB2, H1.out.2.trans (hB2.mono H1.out.2.size)⟩; obtain ⟨ba, bn, bcp, hta⟩ := ob_is hO2 HBB.out; clear H1 hB2 hO2)
    | (go_at_call 8; refine (HE.out _ _ H2.out.1).mono ?_; clear HE; rintro e w3 ⟨ea, ec, rfl, hy3, hB3⟩; have H3 : Hid (ObAt o v w3 ∧ Bytes w3 a m L ∧ Below w.heap.size w w3 ∧ Bytes w3 ea m L) := ⟨H2.out.1.below hB3, bytes_below H2.out.2.1 hB3, H2.out.2.2.trans (hB3.mono H2.out.2.2.size), hy3⟩; clear H2 hB3 hy3)
    | (go_at_call 12; refine (equal_yes _ ea a m m ec c L H3.out.2.2.2 H3.out.2.1).mono ?_; rintro e w4 ⟨rfl, h4⟩; subst h4)
    | (go_at_call 13; refine (HKd.out _ _ H3.out.1).mono ?_; rintro e w4 ⟨rfl, h4⟩; subst h4; have hr0 : (w4.alloc (.cells #[] 5)).ownsRow w4.heap.size 5 1 (.slice (some ⟨w4.heap.size, 0, none⟩) 0 0) 0 [] := World.ownsRow_made w4 #[] 0 (Nat.le_refl _) (by unfold maxLen; omega) rfl; have hyA : Bytes (w4.alloc (.cells #[] 5)) a m L := bytes_below H3.out.2.1 ((Below.refl _ _).alloc (Nat.le_refl _) _))
    | (at_builtin; refine wpList_app _ w4.heap.size (by simp) rfl _ _ rfl (.slice (some ⟨w4.heap.size, 0, none⟩) 0 0) 0 [] rfl hr0 a m c L rfl hyA HN.out (by omega) ?_; intro v5 w5 ho5 hg5 _; have B5 : Below w4.heap.size w4 w5 := ((Below.refl _ _).alloc (Nat.le_refl _) _).trans (below_gr hr0 (by simp) hg5); have H5 : Hid (w5.ownsRow w4.heap.size 5 1 v5 (0 + m) ([] ++ cellsOf L) ∧ Below w4.heap.size w4 w5) := ⟨ho5, B5⟩; clear ho5 hg5 hr0 hyA B5)
    | (at_builtin; refine wpList_app _ w4.heap.size (by have := H5.out.2.size; simp; omega) rfl _ _ rfl v5 (0 + m) _ rfl (H5.out.1.alloc _) (some ⟨w5.heap.size, 0, none⟩) 1 1 [X] rfl (bytes_new w5 [X] _ HX.out) (fun h => by cases h) (by omega) ?_; intro v6 w6 ho6 hg6 _; have B6 : Below w4.heap.size w4 w6 := (H5.out.2.alloc H5.out.2.size _).trans (below_gr (H5.out.1.alloc _) (by have := H5.out.2.size; simp; omega) hg6); obtain ⟨ad6, cp6, hv6, hy6⟩ := own_more HLn.out ho6; subst hv6; have H6 : Hid (ObAt o v w6 ∧ Bytes w6 a m L ∧ Below w.heap.size w w6 ∧ Bytes w6 (some ad6) (m + 1) (L ++ [X])) := ⟨H3.out.1.below B6, bytes_below H3.out.2.1 B6, H3.out.2.2.1.trans (B6.mono H3.out.2.2.1.size), hy6⟩; clear H3 H5 ho6 hg6 B6 hy6)
    | (go_at_call 10; refine (HD2.out _ _ _ H6.out.2.2.2).mono ?_; clear HD2; rintro e w7 ⟨hO7, hB7⟩; obtain ⟨v2, hy, hO7'⟩ := hO7; subst hy; have H7 : Hid (ObAt o v w7 ∧ Bytes w7 a m L ∧ Below w.heap.size w w7 ∧ ObAt o2 v2 w7) := ⟨H6.out.1.below hB7, bytes_below H6.out.2.1 hB7, H6.out.2.2.1.trans (hB7.mono H6.out.2.2.1.size), hO7'⟩; clear H6 hB7)
    | (go_at_call 10; refine (HD3.out _ H7.out.2.1).mono ?_; clear HD3; rintro e w8 ⟨hO8, hB8⟩; obtain ⟨v3, hy, hO8'⟩ := hO8; subst hy; have H8 : Hid (ObAt o v (w8.alloc (.cells #[.slice ba bn bcp] 31)) ∧ Below w.heap.size w (w8.alloc (.cells #[.slice ba bn bcp] 31)) ∧ ObAt o2 v2 (w8.alloc (.cells #[.slice ba bn bcp] 31)) ∧ ObAt o3 v3 (w8.alloc (.cells #[.slice ba bn bcp] 31))) := ⟨(H7.out.1.below hB8).below ((Below.refl _ _).alloc (Nat.le_refl _) _), (H7.out.2.2.1.trans (hB8.mono H7.out.2.2.1.size)).alloc (H7.out.2.2.1.trans (hB8.mono H7.out.2.2.1.size)).size _, (H7.out.2.2.2.below hB8).below ((Below.refl _ _).alloc (Nat.le_refl _) _), hO8'.below ((Below.refl _ _).alloc (Nat.le_refl _) _)⟩; clear H7 hB8)
    | (go_at_call 14; refine (HS2.out _ _ _ H8.out.1 H8.out.2.2.1).mono ?_; clear HS2; rintro e w9 ⟨rfl, hB9⟩; have H9 : Hid (ObAt o v w9 ∧ Below w.heap.size w w9 ∧ ObAt o3 v3 w9) := ⟨H8.out.1.below hB9, H8.out.2.1.trans (hB9.mono H8.out.2.1.size), H8.out.2.2.2.below hB9⟩; clear H8 hB9)
    | (go_at_call 14; refine (HS3.out _ _ _ H9.out.1 H9.out.2.2).mono ?_; clear HS3; rintro e w10 ⟨rfl, hB10⟩; have H10 : Hid (Below w.heap.size w w10) := H9.out.2.1.trans (hB10.mono H9.out.2.1.size); clear H9 hB10)
    | (go_at_call 7; refine (wakes_any _).mono ?_; rintro e w11 ⟨rfl, hB11⟩)
  go_ret
  exact ⟨rfl, H10.out.trans (hB11.mono H10.out.size)⟩

theorem objectBytes_walk (a : Option Addr) (n c : Nat) (l : List UInt8) (x : Int) (hx : 0 ≤ x ∧ x ≤ 255) (w : World) (hb : Bytes w a n l) (hnc : n ≤ c) (hnil : a = none → n = 0 ∧ c = 0) :
    Calls Try.prog 4 #[.slice a n c, .int .u8 x] w fun e w' => e = .returned (.bool true) ∧ Below w.heap.size w w' := by
  obtain ⟨m, hm⟩ : ∃ m, m = min n 8192 := ⟨_, rfl⟩
  have hy := Bytes.takeR hb m (by omega)
  have hn' : a = none → m = 0 ∧ c = 0 := fun h => by have := hnil h; omega
  have hmc : m ≤ c := by omega
  have hX : x = ((UInt8.ofNat x.toNat).toNat : Int) := by rw [UInt8.toNat_ofNat']; omega
  generalize UInt8.ofNat x.toNat = X at hX
  generalize l.take m = L at hy
  have hLn := hy.1
  cases hD : decG L with
  | none => exact bytes_none a n c m L x w hm hy hmc hn' hD
  | some o =>
    obtain ⟨h1, h2, h3, h4⟩ := decG_some hD (by omega)
    have hDD : DD L X o := ⟨h2, h3, obK_ne o⟩
    have hpos : 0 < L.length := by
      cases L with
      | nil => have := obB_head o; rw [h3] at this; simp at this
      | cons c t => simp
    obtain ⟨m', hm'⟩ : ∃ m', m = m' + 1 := ⟨m - 1, by omega⟩
    have hne : ∀ (S : List UInt8) (p : Ob), decG S = some p → S.length ≠ L.length → S.length ≤ 549755813888 → obErr p = 0 ∧ ¬ obB o = obB p := fun S p hS hl hs => by
      obtain ⟨_, g2, g3, _⟩ := decG_some hS hs
      refine ⟨g2, fun e => hl ?_⟩
      rw [← g3, ← h3, e]
    cases hBl : isBlob o with
    | false =>
      have e3 : L.take m' = L.take (L.length - 1) := by congr 1; omega
      exact bytes_not a n c m m' L x X hX w hm hy hmc hn' hm' o hD hDD hBl (decG_none (longer_none h1 (by omega) hBl X)) (decG_none (by rw [e3]; exact shorter_none h1 (by omega) hBl))
    | true =>
      cases hG2 : decG (L ++ [X]) with
      | none =>
        cases hG3 : decG (L.take m') with
        | none => exact bytes_00 a n c m m' L x X hX w hm hy hmc hn' hm' o hD hDD hBl hG2 hG3
        | some o3 =>
          obtain ⟨e1, e2⟩ := hne _ o3 hG3 (by rw [List.length_take]; omega) (by rw [List.length_take]; omega)
          exact bytes_01 a n c m m' L x X hX w hm hy hmc hn' hm' o hD hDD hBl hG2 o3 hG3 e1 e2
      | some o2 =>
        obtain ⟨d1, d2⟩ := hne _ o2 hG2 (by simp) (by simp; omega)
        cases hG3 : decG (L.take m') with
        | none => exact bytes_10 a n c m m' L x X hX w hm hy hmc hn' hm' o hD hDD hBl o2 hG2 d1 d2 hG3
        | some o3 =>
          obtain ⟨e1, e2⟩ := hne _ o3 hG3 (by rw [List.length_take]; omega) (by rw [List.length_take]; omega)
          exact bytes_11 a n c m m' L x X hX w hm hy hmc hn' hm' o hD hDD hBl o2 hG2 d1 d2 o3 hG3 e1 e2
end Go.Proofs.Ytdibdcbihleflab
