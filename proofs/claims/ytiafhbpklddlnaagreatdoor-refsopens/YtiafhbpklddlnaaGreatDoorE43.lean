import Derived.Test.YtiafhbpklddlnaaGreatDoorE24
import Derived.Test.YtiafhbpklddlnaaGreatDoorE42
import Derived.Laws.AppendOwnNone
import Derived.Maps.AppendAt
import Derived.Test.YtiafhbpklddlnaaGreatDoorE07
import Derived.Test.YtiafhbpklddlnaaGreatDoorE08
import Derived.Test.YtiafhbpklddlnaaGreatDoorE09
/- The document's refs: Payload. -/
namespace Go.Proofs.YtiafhbpklddlnaaGreatDoor
open Go.RowKit Go.Shelf Go.Maps

attribute [local go_sem] Oper.semAt_some

theorem row_shapeP {w : World} {B n : Nat} {e : TypeId} {v : Value} {xs : List Value} (h : w.ownsRow B e 1 v n xs) : ∃ ad c, v = .slice ad n c ∧ n ≤ c ∧ (ad = none → n = 0 ∧ c = 0) := by
  rcases h.2 with ⟨rfl, rfl⟩ | ⟨g, cap, cur, rfl, _, _, hc, _⟩
  · exact ⟨none, 0, rfl, Nat.le_refl _, fun _ => ⟨rfl, rfl⟩⟩
  · exact ⟨_, _, rfl, hc, fun h => by cases h⟩
theorem row_bytesP {w : World} {B n c : Nat} {ad : Option Addr} {l : List UInt8} (h : w.ownsRow B 5 1 (.slice ad n c) n (cellsOf l)) : Bytes w ad n l := by
  have hl : l.length = n := by have := h.1; rw [cellsOf_length] at this; omega
  rcases h.2 with ⟨hv, hn⟩ | ⟨g, cap, cur, hv, _, hg, hc, _, _, ht⟩
  · exact ⟨hl, fun h0 => by omega⟩
  · cases hv
    refine ⟨hl, fun _ => ⟨g, 0, rfl, fun j hj => ?_⟩⟩
    have e : (cur.toList.take (n * 1))[j]? = some (.int .u8 (bt l j)) := by rw [ht]; exact cellsOf_get l j (by omega)
    rw [List.getElem?_take_of_lt (by omega)] at e
    simp only [World.cell?, hg]
    show cur[0 + j]? = _
    rw [Nat.zero_add, ← Array.getElem?_toList]; exact e
theorem row_blockP {W : World} {base n : Nat} {e : TypeId} {v : Value} {xs : List Value} (h : W.ownsRow base e 1 v n xs) : ∀ r, v.ownBlock = some r → base ≤ r ∧ r < W.heap.size ∧ ∃ cur, W.heap[r]? = some (.cells cur e (0, 0)) := by
  intro r hr
  rcases h.2 with ⟨rfl, _⟩ | ⟨g, cap, cur, rfl, hb, hg, _⟩
  · cases hr
  · cases hr
    exact ⟨hb, (Array.getElem?_eq_some_iff.1 hg).1, cur, hg⟩
theorem run_appP (w : World) (B : Nat) (hB : B ≤ w.heap.size) (ty : TypeId) (v : Value) (n : Nat) (xs : List Value) (hown : w.ownsRow B 5 1 v n xs) (ad : Option Addr) (m c : Nat) (l : List UInt8) (hb : Bytes w ad m l) (hnil : ad = none → m = 0 ∧ c = 0) (hm : n + m ≤ 140737488355328) :
    ∃ v' w', (Builtin.append_ #[33, 33] ty #[v, .slice ad m c]).run Tryz.prog w = .ok v' w' ∧ w'.ownsRow B 5 1 v' (n + m) (xs ++ cellsOf l) ∧ w.grownBy w' v.ownBlock ∧ (v'.ownBlock = v.ownBlock ∨ v'.ownBlock = some w.heap.size) := by
  obtain ⟨i0, hi, hz0, hz1, hz2⟩ := info_parts Tryz.info5
  cases ad with
  | none =>
    obtain ⟨rfl, rfl⟩ := hnil rfl
    have hl : l = [] := List.eq_nil_of_length_eq_zero hb.1
    subst hl
    exact ⟨v, w, run_append_owned_none (P := Tryz.prog) (w := w) B 33 ty 5 i0 1 Tryz.underlying33 hi v n xs hown, by simpa [cellsOf] using hown, ⟨rfl, rfl, rfl, Nat.le_refl _, fun _ _ _ => rfl⟩, .inl rfl⟩
  | some ad =>
    obtain ⟨v', w', h1, h2, h3, _, h5⟩ := run_append_own_at (P := Tryz.prog) w B 33 ty 5 i0 (.int .u8 0) 1 1 Tryz.underlying33 hi hz0 hz1 hz2 rfl (by omega) v n xs hown ad m c (cellsOf l) (by rw [cellsOf_length, hb.1]; omega) (by
      intro j u hj
      have hjl : j < l.length := by have := (List.getElem?_eq_some_iff.1 hj).1; rw [cellsOf_length] at this; exact this
      have hl := hb.1
      obtain ⟨b, off, hx', hc⟩ := hb.2 (by omega)
      obtain rfl := Option.some.inj hx'
      rw [cellsOf_get l j hjl] at hj
      rw [Addr.add_lit, hc j (by omega)]
      exact hj) (cellsOf_one l) (by unfold maxLen; omega) (by omega) hB
    exact ⟨v', w', h1, h2, h3, h5⟩
theorem wpList_appP (w : World) (B : Nat) (hB : B ≤ w.heap.size) {ops : Array Oper} {rest : List Oper} {o : Oper} {a : Act} {Q : Exit → Act → World → Prop} (hgd : o.guard = none) (s x : Operand)
    (ho : o.op = .call { callee := .builtin .append, args := #[s, x], argTypes := #[33, 33] })
    (v : Value) (n : Nat) (xs : List Value) (hs : a.eval s = v) (hown : w.ownsRow B 5 1 v n xs) (ad : Option Addr) (m c : Nat) (l : List UInt8) (hx : a.eval x = .slice ad m c) (hb : Bytes w ad m l) (hnil : ad = none → m = 0 ∧ c = 0) (hm : n + m ≤ 140737488355328)
    (h : ∀ v' w', w'.ownsRow B 5 1 v' (n + m) (xs ++ cellsOf l) → w.grownBy w' v.ownBlock → (v'.ownBlock = v.ownBlock ∨ v'.ownBlock = some w.heap.size) → wpList Tryz.prog ops Q rest (a.put o.dst v') w') : wpList Tryz.prog ops Q (o :: rest) a w := by
  refine wpList_plain hgd fun K hK => ?_
  obtain ⟨v', w', hr, h2, h3, h4⟩ := run_appP w B hB o.type v n xs hown ad m c l hb hnil hm
  unfold Oper.wp execOp
  simp only [ho, resolve, invoke, builtin, Sem.run_bind, Sem.run_pure, Result.andThen_ok, List.map_toArray, List.map_cons, List.map_nil, hs, hx, hr]
  exact hK _ _ (h v' w' h2 h3 h4)

theorem row_turnP {w w' : World} {B n : Nat} {v : Value} {xs : List Value} (h : w.ownsRow B 5 1 v n xs) (hB : Below w.heap.size w w') : w'.ownsRow B 5 1 v n xs :=
  h.kept (row := none) ⟨hB.os, hB.tape, hB.output, hB.size, fun k hk _ => hB.block k hk⟩ (by cases v.ownBlock <;> simp)
/-- behind an append onto a row of one's own -/
theorem grown_belowP {w W W' : World} {B n : Nat} {v : Value} {xs : List Value} (h : W.ownsRow B 5 1 v n xs) (hb : Below B w W) (hB : B ≤ W.heap.size) (hg : W.grownBy W' v.ownBlock) : Below B w W' :=
  hb.trans ⟨hg.os, hg.tape, hg.output, hg.size, fun k hk => hg.block k (by omega) (fun e => by have := (row_blockP h k e.symm).1; omega)⟩

set_option maxRecDepth 100000 in
set_option maxHeartbeats 4000000 in
theorem payload_any (w : World) (a : Option Addr) (m c : Nat) (l : List Ch) (hl : Chs w a m l) (hi : ∀ x ∈ l, 0 ≤ x.2 ∧ x.2 ≤ 18446744073709551615) (hm : m ≤ 1000000000000) (hE : (encR l).length ≤ 140737488351232) :
    Calls Tryz.prog 12 #[.slice a m c] w fun e w' => ∃ ad cp, e = .returned (.slice ad (encR l).length cp) ∧ w'.ownsRow w.heap.size 5 1 (.slice ad (encR l).length cp) (encR l).length (cellsOf (encR l)) ∧ Below w.heap.size w w' := by
  have hll := hl.1
  have hu := refUint_any m w (by omega)
  have hsl := short_len m
  have HE : Hid ((encR l).length ≤ 140737488351232) := hE
  clear hE
  go_enter Tryz.func12, Tryz.ntmps12
  go_wp2_with (go_at_call 36; refine hu.mono ?_; clear hu; rintro e w1 ⟨v1, rfl, ho1, hB1⟩; obtain ⟨a1, c1, hv1, _⟩ := row_shapeP ho1; subst hv1; have H1 : Hid (w1.ownsRow w.heap.size 5 1 (.slice a1 (short m).length c1) (short m).length (cellsOf (short m)) ∧ Below w.heap.size w w1) := ⟨ho1, hB1⟩; clear ho1 hB1)
  go_loopw [3, 12] (fun v i wr => ∃ (k : Nat) (ad : Option Addr) (p cp : Nat), k ≤ m ∧ i = .int .i64 (k : Int) ∧ v = .slice ad p cp ∧ Hid (p = (short m ++ chsB (l.take k)).length ∧ wr.ownsRow w.heap.size 5 1 (.slice ad p cp) p (cellsOf (short m ++ chsB (l.take k))) ∧ Below w.heap.size w wr)) (fun _ i _ => m - (intOf i).toNat)
  case atStart => exact ⟨0, a1, _, c1, Nat.zero_le _, rfl, rfl, by simp [chsB], by simpa [chsB] using H1.out.1, H1.out.2⟩
  case round =>
    clear H1
    obtain ⟨k, ad, p, cp, hk, rfl, rfl, H⟩ := hrel
    by_cases hlt : k < m
    · obtain ⟨x, hx⟩ : ∃ x, l[k]? = some x := ⟨_, List.getElem?_eq_getElem (by omega)⟩
      obtain ⟨b1, o1, rfl, hc1⟩ := hl.2 (by omega)
      obtain ⟨t1, t2⟩ := hc1 k x hx
      obtain ⟨hi0, hi1⟩ := hi x (List.mem_of_getElem? hx)
      obtain ⟨hp, hrow, hB⟩ := H.out
      have q1 := (hB.cell (p := ⟨b1, o1 + k * 2, none⟩) (World.block_lt_of_cell? w _ t1)).trans t1
      have q2 := (hB.cell (p := ⟨b1, o1 + k * 2 + 1, none⟩) (World.block_lt_of_cell? w _ t2)).trans t2
      have hst := chsB_take l k x hx
      have hle := chsB_take_le l (k + 1)
      have hE := HE.out
      rw [hst] at hle
      simp only [encR, List.length_append, hll] at hE
      have i2 : (k : Int) < (m : Int) := by omega
      have i3 : ¬ m ≤ k := by omega
      clear hc1 hx t1 t2 H
      obtain ⟨nm, id⟩ := x
      simp only [chB, List.length_append, wide_len8] at q1 q2 hst hle hi0 hi1
      obtain ⟨idn, rfl⟩ : ∃ z : Nat, id = (z : Int) := ⟨id.toNat, by omega⟩
      have hnl : nm.data.toList.length = nm.size := by simp
      rw [hnl] at hle
      have hpl : p = (short m).length + (chsB (l.take k)).length := by rw [hp, List.length_append]
      have hBa : Below wr.heap.size wr (wr.alloc (.cells #[.string nm, .int .u64 (idn : Int)] 38)) := (Below.refl _ wr).alloc (Nat.le_refl _) _
      have hT := refText_any nm (wr.alloc (.cells #[.string nm, .int .u64 (idn : Int)] 38)) (by omega)
      have HR : Hid ((wr.alloc (.cells #[.string nm, .int .u64 (idn : Int)] 38)).ownsRow w.heap.size 5 1 (.slice ad p cp) p (cellsOf (short m ++ chsB (l.take k))) ∧ Below w.heap.size w (wr.alloc (.cells #[.string nm, .int .u64 (idn : Int)] 38)) ∧ ∀ g, (Value.slice ad p cp).ownBlock = some g → g < wr.heap.size) := ⟨row_turnP hrow hBa, hB.trans (hBa.mono hB.size), fun g hg => (row_blockP hrow g hg).2.1⟩
      have d0 : (wr.alloc (.cells #[.string nm, .int .u64 (idn : Int)] 38)).cell? ⟨wr.heap.size, 0, none⟩ = some (.string nm) := by simp only [World.cell?, World.alloc_heap_new]; rfl
      have d1 : (wr.alloc (.cells #[.string nm, .int .u64 (idn : Int)] 38)).cell? ⟨wr.heap.size, 1, none⟩ = some (.int .u64 (idn : Int)) := by simp only [World.cell?, World.alloc_heap_new]; rfl
      have HD1 : Hid ((wr.alloc (.cells #[.string nm, .int .u64 (idn : Int)] 38)).cell? ⟨wr.heap.size, 1, none⟩ = some (.int .u64 (idn : Int))) := d1
      have HST : Hid (chsB (l.take (k + 1)) = chsB (l.take k) ++ (short nm.size ++ nm.data.toList ++ wide idn)) := show _ = _ by simpa using hst
      obtain ⟨tn, htn⟩ : ∃ tn, tn = (short nm.size).length + nm.size := ⟨_, rfl⟩
      rw [← htn] at hT
      have hfit : p + tn + 8 ≤ 140737488351232 := by omega
      have hidn : idn < 18446744073709551616 := by omega
      have HP : Hid (p = (short m).length + (chsB (l.take k)).length ∧ tn = (short nm.size).length + nm.size) := ⟨hpl, htn⟩
      have hmeas : m - (intOf (Value.int .i64 ((k : Int) + 1))).toNat < m - (intOf (Value.int .i64 (k : Int))).toNat := by simp [intOf]; omega
      have HM : Hid (m - (intOf (Value.int .i64 ((k : Int) + 1))).toNat < m - (intOf (Value.int .i64 (k : Int))).toNat) := hmeas
      clear hBa hB hrow hp hpl hle hst hnl hE htn hmeas
      go_wp2_with first
        | (go_at_call 33; refine hT.mono ?_; clear hT; rintro e w2 ⟨v2, rfl, ho2, hB2⟩; obtain ⟨a2, c2, hv2, hnc2, hnil2⟩ := row_shapeP ho2; subst hv2; have hby2 := row_bytesP ho2; have hr2 := row_turnP HR.out.1 hB2; have hb2 : Below w.heap.size w w2 := HR.out.2.1.trans (hB2.mono HR.out.2.1.size); have e1 := (hB2.cell (p := ⟨wr.heap.size, 1, none⟩) (by simp)).trans HD1.out; have HW2 : Hid (w2.cell? ⟨wr.heap.size, 1, none⟩ = some (.int .u64 (idn : Int)) ∧ Below w.heap.size w w2 ∧ w2.ownsRow w.heap.size 5 1 (.slice ad p cp) p (cellsOf (short m ++ chsB (l.take k)))) := ⟨e1, hb2, hr2⟩; have hbs2 := hb2.size; clear ho2 hB2 hb2 e1)
        | (at_builtin; refine wpList_appP _ w.heap.size hbs2 rfl _ _ rfl _ p _ rfl hr2 a2 tn c2 _ rfl hby2 hnil2 (by omega) ?_; intro v3 w3 ho3 hg3 _; obtain ⟨a3, c3, hv3, _⟩ := row_shapeP ho3; subst hv3; have hb3 := grown_belowP HW2.out.2.2 HW2.out.2.1 HW2.out.2.1.size hg3; have e3 := hg3.cell HW2.out.1 (fun e => Nat.lt_irrefl _ (HR.out.2.2 _ e.symm)); have hw3 := refWord_any idn w3 hidn; have HW3 : Hid (Below w.heap.size w w3 ∧ w3.ownsRow w.heap.size 5 1 (.slice a3 (p + tn) c3) (p + tn) _) := ⟨hb3, ho3⟩; clear ho3 hg3 hb3 hr2 hby2)
        | (go_at_call 34; refine hw3.mono ?_; clear hw3; rintro e w4 ⟨rfl, hby4, hB4⟩; have hr4 := row_turnP HW3.out.2 hB4; have hb4 : Below w.heap.size w w4 := HW3.out.1.trans (hB4.mono HW3.out.1.size); have hbs4 := hb4.size; have HW4 : Hid (Below w.heap.size w w4 ∧ w4.ownsRow w.heap.size 5 1 (.slice a3 (p + tn) c3) (p + tn) _) := ⟨hb4, hr4⟩; clear hB4 hb4)
        | (at_builtin; refine wpList_appP _ w.heap.size hbs4 rfl _ _ rfl _ (p + tn) _ rfl hr4 _ 8 8 _ rfl hby4 (fun h => by cases h) (by omega) ?_; intro v5 w5 ho5 hg5 _; obtain ⟨a5, c5, hv5, _⟩ := row_shapeP ho5; subst hv5; have hb5 := grown_belowP HW4.out.2 HW4.out.1 HW4.out.1.size hg5; have HW5 : Hid (Below w.heap.size w w5 ∧ w5.ownsRow w.heap.size 5 1 (.slice a5 (p + tn + 8) c5) (p + tn + 8) _) := ⟨hb5, ho5⟩; clear ho5 hg5 hb5 hr4 hby4)
      refine ⟨⟨k + 1, a5, p + tn + 8, c5, by omega, by simp, rfl, ?_, ?_, HW5.out.1⟩, HM.out⟩
      · obtain ⟨h1, h2⟩ := HP.out
        rw [HST.out]
        simp only [List.length_append, wide_len8]
        have : nm.data.toList.length = nm.size := by simp
        omega
      · have h := HW5.out.2
        rw [HST.out]
        simp only [cellsOf_append, List.append_assoc] at h ⊢
        exact h
    · obtain rfl : k = m := by omega
      have i2 : ¬ (k : Int) < (k : Int) := by omega
      obtain ⟨hp, hrow, hB⟩ := H.out
      rw [List.take_of_length_le (by omega)] at hp hrow
      have he : encR l = short k ++ chsB l := by unfold encR; rw [hll]
      rw [← he] at hp hrow
      subst hp
      have HF : Hid (wr.ownsRow w.heap.size 5 1 (.slice ad (encR l).length cp) (encR l).length (cellsOf (encR l)) ∧ Below w.heap.size w wr) := ⟨hrow, hB⟩
      clear hrow hB H he
      go_wp2
      go_ret
      exact ⟨_, _, rfl, HF.out.1, HF.out.2⟩
end Go.Proofs.YtiafhbpklddlnaaGreatDoor

/- The walk of the document's Hash: it answers the same function of the bytes as the program's. -/
namespace Go.Proofs.YtiafhbpklddlnaaGreatDoor
open Go.RowKit

set_option maxHeartbeats 400000 in
theorem refHash_any (a : Option Addr) (n cap : Nat) (l : List UInt8) (w : World) (hb : Bytes w a n l) (hm : n ≤ maxLen) :
    Calls Tryz.prog 35 #[.slice a n cap] w fun e w' => e = .returned (.int .u64 (hashTo l n)) ∧ w' = w := by
  unfold maxLen at hm
  obtain ⟨hl, hc⟩ := hb
  go_enter Tryz.func35, Tryz.ntmps35
  go_wp2
  go_loop [3, 4] (fun h i => ∃ k : Nat, k ≤ n ∧ i = .int .i64 k ∧ h = .int .u64 (hashTo l k)) (fun _ i => n - (intOf i).toNat)
  case atStart => exact ⟨0, Nat.zero_le _, rfl, rfl⟩
  case round =>
    obtain ⟨k, hk, rfl, rfl⟩ := hrel
    by_cases hlt : k < n
    · obtain ⟨b, off, rfl, hcell⟩ := hc (by omega)
      have hck := hcell k hlt
      have b0 := bt_lo l k
      have b1 := bt_hi l k
      have h0 := hashTo_lo l k
      have h1 := hashTo_hi l k
      clear hcell hc
      go_wp2
      go_round
      case rel => exact ⟨k + 1, by omega, by go_num, by rw [hashTo_succ]⟩
      case measure => simp [intOf]; omega
    · go_wp2
      go_ret
      obtain rfl : k = n := by omega
      exact ⟨rfl, rfl⟩
end Go.Proofs.YtiafhbpklddlnaaGreatDoor

/- The walk of the document's own form of a record. -/
namespace Go.Proofs.YtiafhbpklddlnaaGreatDoor
open Go.RowKit

theorem ownsRow_toBytes' {w : World} {B n c : Nat} {ad : Option Addr} {l : List UInt8} (h : w.ownsRow B 5 1 (.slice ad n c) n (cellsOf l)) : Bytes w ad n l := (ownsRow_toBytes h).1

theorem refHash_nat (a : Option Addr) (n c : Nat) (l : List UInt8) (w : World) (hb : Bytes w a n l) (hm : n ≤ maxLen) :
    Calls Tryz.prog 35 #[.slice a n c] w fun e w' => e = .returned (.int .u64 (hashN l)) ∧ w' = w := by
  rw [hashN_eq, hb.1]
  exact refHash_any a n c l w hb hm

set_option maxHeartbeats 1000000 in
theorem refRecord_any (a : Option Addr) (n c : Nat) (l : List UInt8) (w : World) (hb : Bytes w a n l) (hn : n ≤ 140737488351232) :
    Calls Tryz.prog 11 #[.slice a n c] w fun e w' => ∃ b, e = .returned (.slice (some ⟨b, 0, none⟩) (recB l).length (recB l).length) ∧ Bytes w' (some ⟨b, 0, none⟩) (recB l).length (recB l) ∧ Below w.heap.size w w' ∧ w.heap.size ≤ b := by
  have hrs := run_string w a n c l hb
  have hl := hb.1
  have hx1 := refText_any ⟨l.toArray⟩ w (by show l.length ≤ _; omega)
  go_enter Tryz.func11, Tryz.ntmps11
  go_wp2_with fail
  refine hx1.mono ?_
  clear hx1
  rintro e w1 ⟨v, rfl, hown1, hB1⟩
  obtain ⟨a1, c1, rfl, _, _⟩ := ownsRow_shape' hown1
  have hb1' := (ownsRow_toBytes' hown1)
  have hsz : (ByteArray.mk l.toArray).size = n := hl
  rw [hsz] at hown1 hb1' ⊢
  obtain ⟨N1, hN1⟩ : ∃ N1, N1 = (short n).length + n := ⟨_, rfl⟩
  have HN1 : Hid (N1 = (short n).length + n) := hN1
  rw [← hN1] at hb1' ⊢
  have hb2 : Bytes w1 a n l := (Turn.of_below (fun _ => False) hB1).bytes hb (fun _ _ _ => id)
  have hs10 := short_len n
  have hN1b : N1 ≤ 140737488351300 := by omega
  clear hb hrs hown1 hN1
  go_wp2_with fail
  refine (refHash_nat a n c l w1 hb2 (by unfold maxLen; omega)).mono ?_
  rintro e w2 ⟨rfl, rfl⟩
  go_wp2_with fail
  refine (refWord_any (hashN l) w2 (hashN_lt l)).mono ?_
  rintro e w3 ⟨rfl, hbw, hB3⟩
  have hb3 : Bytes w3 a1 N1 (short n ++ l) := (Turn.of_below (fun _ => False) hB3).bytes hb1' (fun _ _ _ => id)
  have hB13 : Hid (Below w.heap.size w w3) := hB1.trans (hB3.mono hB1.size)
  have hx4 := both_any a1 (some ⟨w2.heap.size, 0, none⟩) N1 8 c1 8 _ _ w3 hb3 hbw (by omega)
  clear hb2 hb1' hb3 hbw hB1 hB3
  go_wp2_with fail
  refine hx4.mono ?_
  clear hx4
  rintro e w4 ⟨rfl, hown4, hg4⟩
  go_wp2
  go_ret
  have hE : N1 + 8 = (recB l).length := by rw [recB_len, hl, HN1.out]
  have hE2 : short n ++ l ++ wide (hashN l) = recB l := by unfold recB; rw [hl, List.append_assoc]
  rw [hE, hE2] at hown4
  refine ⟨w3.heap.size, by rw [← hE]; rfl, (ownsRow_bytes hown4).1, hB13.out.grown hg4 hB13.out.size (by simp), hB13.out.size⟩

end Go.Proofs.YtiafhbpklddlnaaGreatDoor
