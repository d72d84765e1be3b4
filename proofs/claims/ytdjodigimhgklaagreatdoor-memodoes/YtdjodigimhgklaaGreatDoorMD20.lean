import Derived.Test.YtdjodigimhgklaaGreatDoorMD11
import Derived.Test.YtdjodigimhgklaaGreatDoorMD12
import Derived.Test.YtdjodigimhgklaaGreatDoorMD14
import Derived.Test.YtdjodigimhgklaaGreatDoorMD09
import Derived.Lib.ConvBytes
import Derived.WalkMore
import Derived.Test.YtdjodigimhgklaaGreatDoorMD17
import Derived.Laws.IdiomArrays
import Derived.Test.YtdjodigimhgklaaGreatDoorMD16
import Derived.Test.YtdjodigimhgklaaGreatDoorMD15
import Derived.Test.YtdjodigimhgklaaGreatDoorMD03
import Derived.Lib.AppendZeros
/- The walk of the method that takes up the records of a file. -/
namespace Go.Proofs.YtdjodigimhgklaaGreatDoor
open Go.RowKit

/-- the bytes of a string as a new slice -/
theorem run_bytes (w : World) (s : ByteArray) : ∃ c w', (convert 9 33 (.string s)).run Tryz.prog w = .ok (.slice (some ⟨w.heap.size, 0, none⟩) s.size c) w' ∧ Bytes w' (some ⟨w.heap.size, 0, none⟩) s.size s.data.toList ∧ Below w.heap.size w w' ∧ w'.heap.size = w.heap.size + 1 := by
  refine ⟨_, _, Lib.run_convert_string_bytes w 9 33 5 s Tryz.underlying9 Tryz.underlying33 Tryz.underlying5, ⟨rfl, fun _ => ⟨w.heap.size, 0, rfl, fun i hi => ?_⟩⟩, ⟨rfl, rfl, rfl, ?_, fun k hk => Lib.bytesWorld_at_old w _ s k hk⟩, Lib.bytesWorld_size _ _ _⟩
  · rw [Nat.zero_add, Lib.bytesWorld_cell w _ s i hi]; rfl
  · rw [Lib.bytesWorld_size]; omega

theorem Rd.turn {w w' : World} {r g p : Nat} {e : Int} {l : List UInt8} {Fp : Nat → Prop} (h : Rd w r g p e l) (ht : Turn Fp w w') (h1 : ¬ Fp r) (h2 : ¬ Fp g) : Rd w' r g p e l where
  c0 := ht.cell h.c0 h1
  c1 := ht.cell h.c1 h1
  c2 := ht.cell h.c2 h1
  f0 := by rw [ht.frozen (World.block_lt_of_cell? w ⟨r, 0, none⟩ h.c0) h1]; exact h.f0
  f1 := by rw [ht.frozen (World.block_lt_of_cell? w ⟨r, 1, none⟩ h.c1) h1]; exact h.f1
  hp := h.hp
  hl := h.hl
  ne := h.ne
  row := fun i hi => ht.cell (h.row i hi) h2

/-- what holds ahead of each record: p bytes are read, which were the records pre -/
structure RInv (w wr : World) (j d R G : Nat) (nm : ByteArray) (l : List UInt8) (F : Nat → Prop) (p : Nat) (pre : List (List UInt8)) (Fr : Nat → Prop) : Prop where
  rd : Rd wr R G p 0 l
  at_ : JAt wr j d nm pre p false Fr
  sub : ∀ k, Fr k → F k ∨ w.heap.size ≤ k
  nr : ¬ Fr R
  ng : ¬ Fr G
  turn : Turn F w wr
  told : parseL l = (pre ++ (parseL (l.drop p)).1, p + (parseL (l.drop p)).2.1, (parseL (l.drop p)).2.2)

theorem RInv.turnR {w wr w' : World} {j d R G : Nat} {nm : ByteArray} {l : List UInt8} {F : Nat → Prop} {p : Nat} {pre : List (List UInt8)} {Fr : Nat → Prop} (h : RInv w wr j d R G nm l F p pre Fr) (hR : w.heap.size ≤ R) (hT : Turn (fun k => k = R) wr w') : Turn F w w' ∧ JAt w' j d nm pre p false Fr :=
  ⟨h.turn.trans hT (fun i hi e => by omega), h.at_.turn hT (fun k hk e => h.nr (by rw [← e]; exact hk))⟩

theorem RInv.done {w wr w' : World} {j d R G : Nat} {nm : ByteArray} {l : List UInt8} {F : Nat → Prop} {p : Nat} {pre : List (List UInt8)} {Fr : Nat → Prop} (h : RInv w wr j d R G nm l F p pre Fr) (hR : w.heap.size ≤ R) (hlt : ∀ k, F k → k < w.heap.size) (hT : Turn (fun k => k = R) wr w') (hp : parseL (l.drop p) = ([], 0, false)) :
    Turn F w w' ∧ (parseL l).2.2 = false ∧ JAt w' j d nm (parseL l).1 (parseL l).2.1 false (grow F w w') := by
  obtain ⟨h1, h2⟩ := h.turnR hR hT
  have ht := h.told
  rw [hp] at ht
  rw [ht]
  refine ⟨h1, rfl, ?_⟩
  simp only [List.append_nil, Nat.add_zero]
  exact h2.wide (fun k hk => (h.sub k hk).imp id (fun hk' => ⟨hk', h2.lt k hk⟩)) (fun k hk => hk.elim (fun hk' => Nat.lt_of_lt_of_le (hlt k hk') h1.size) (fun hk' => hk'.2))

theorem RInv.bad {w wr w' : World} {j d R G : Nat} {nm : ByteArray} {l : List UInt8} {F : Nat → Prop} {p : Nat} {pre : List (List UInt8)} {Fr : Nat → Prop} (h : RInv w wr j d R G nm l F p pre Fr) (hR : w.heap.size ≤ R) (hT : Turn (fun k => k = R) wr w') (hp : parseL (l.drop p) = ([], 0, true)) :
    Turn F w w' ∧ (parseL l).2.2 = true := by
  have ht := h.told
  rw [hp] at ht
  exact ⟨(h.turnR hR hT).1, by rw [ht]⟩

/-- a record more -/
theorem RInv.next {w wr w1 w2 W : World} {j d R G : Nat} {nm : ByteArray} {l q : List UInt8} {F : Nat → Prop} {p k : Nat} {pre : List (List UInt8)} {Fr : Nat → Prop} {z : Int} (h : RInv w wr j d R G nm l F p pre Fr) (hR : w.heap.size ≤ R) (hG : G < wr.heap.size) (hRlt : R < wr.heap.size) (hlen : l.length ≤ 4194304) (h0 : l.drop p ≠ []) (hq : rec1 (l.drop p) = .one q k)
    (hT1 : Turn (fun i => i = R) wr w1) (hrd : Rd w1 R G (p + k) 0 l) (hp : IsPay w2 j 2 (pre ++ [q]) (grow Fr w1 w2)) (hT2 : Turn Fr w1 w2) (hRest : Rest j 2 w1 w2) (hz : z = ((p + k : Nat) : Int)) (hW : W.heap = w2.heap) (hWt : W.tape = w2.tape) (hWo : W.os = w2.os) (hWp : W.output = w2.output) :
    RInv w (W.setCell ⟨j, 5, none⟩ (.int .i64 z)) j d R G nm l F (p + k) (pre ++ [q]) (grow Fr w1 w2) := by
  obtain ⟨_, hJ1⟩ := h.turnR hR hT1
  have h1 := rec1_one hq
  have hdl : (l.drop p).length = l.length - p := List.length_drop
  have hple := h.rd.hp
  have hT2' : Turn Fr w1 W := ⟨hWo.trans hT2.os, hWt.trans hT2.tape, hWp.trans hT2.output, by rw [hW]; exact hT2.size, fun i hi hf => by rw [hW]; exact hT2.block i hi hf⟩
  have hp' : IsPay W j 2 (pre ++ [q]) (grow Fr w1 W) := by
    have hgw : grow Fr w1 W = grow Fr w1 w2 := by unfold grow; rw [hW]
    rw [hgw]
    obtain ⟨g, na, full, A, v, xs, hp, h1, h2⟩ := hp
    exact ⟨g, na, full, A, v, xs, hp.kept (by rw [hW]) (fun _ _ => by rw [hW]) (fun _ _ => by rw [hW]), h1, h2⟩
  have hRest' : Rest j 2 w1 W := hRest.trans (Rest.of_block (by rw [hW]))
  obtain ⟨hJ, hT⟩ := hJ1.added hp' hT2' hRest' k h1.2.2.2.1 (by omega) z hz
  have hgw : grow Fr w1 W = grow Fr w1 w2 := by unfold grow; rw [hW]
  rw [hgw] at hJ
  have hRs : R < w1.heap.size := Nat.lt_of_lt_of_le hRlt hT1.size
  have hGs : G < w1.heap.size := Nat.lt_of_lt_of_le hG hT1.size
  have nr : ¬ grow Fr w1 w2 R := fun e => e.elim h.nr (fun e => by omega)
  have ng : ¬ grow Fr w1 w2 G := fun e => e.elim h.ng (fun e => by omega)
  refine { rd := hrd.turn hT h.nr h.ng, at_ := hJ, sub := ?_, nr := nr, ng := ng, turn := ?_, told := ?_ }
  · intro i hi
    rcases hi with hi | hi
    · exact h.sub i hi
    · have := hT1.size
      have := h.turn.size
      exact .inr (by omega)
  · exact (h.turn.trans hT1 (fun i hi e => by omega)).trans hT (fun i hi hf => (h.sub i hf).elim id (fun e => by omega))
  · have e := parseL_one h0 hq
    rw [List.drop_drop] at e
    rw [h.told, e]
    simp [Nat.add_assoc]

set_option maxRecDepth 20000 in
set_option maxHeartbeats 4000000 in
theorem jread_any (w : World) (j d : Nat) (nm : ByteArray) (F : Nat → Prop) (h : JAt w j d nm [] 0 false F) (a : Option Addr) (n c : Nat) (l : List UInt8) (hb : Bytes w a n l) (hn : n ≤ 4194304) :
    Calls Tryz.prog 74 #[.pointer (some ⟨j, 0, none⟩), .slice a n c] w fun e w' => Turn F w w' ∧
      (((parseL l).2.2 = true ∧ e = .returned (.int .i64 8)) ∨ ((parseL l).2.2 = false ∧ e = .returned (.int .i64 0) ∧ JAt w' j d nm (parseL l).1 (parseL l).2.1 false (grow F w w'))) := by
  have hll := hb.1
  have hlt := h.lt
  go_enter Tryz.func74, Tryz.ntmps74
  go_wp2_with fail
  go_step3
  go_wp2_with fail
  refine (oread_any a n c l w hb (by omega)).mono ?_
  rintro e w1 ⟨R, G, rfl, hR, hG, hrd, hg⟩
  have HI : Hid (RInv w w1 j d R G nm l F 0 [] F) := ⟨hrd, h.kept hg.size (fun k hk => hg.block k (hlt k hk) (by simp)), fun k hk => .inl hk, fun hk => by have := hlt _ hk; omega, fun hk => by have := hlt _ hk; omega,
    Turn.of_grownBy hg (by simp), by simp⟩
  have HL : Hid (l.length = n) := hll
  clear h hb hrd hg hll
  go_wp2_with fail
  go_step3
  go_wp2_with fail
  go_loopw [] (fun wr => ∃ p pre Fr, Hid (RInv w wr j d R G nm l F p pre Fr ∧ R < wr.heap.size ∧ (0 < n → G < wr.heap.size))) (fun wr => n - (intOf ((wr.cell? ⟨R, 0, none⟩).getD undef)).toNat)
  case atStart => exact ⟨0, [], F, HI.out, World.block_lt_of_cell? w1 ⟨R, 0, none⟩ HI.out.rd.c0, fun h0 => World.block_lt_of_cell? w1 ⟨G, 0, none⟩ (HI.out.rd.row 0 (by rw [HL.out]; exact h0))⟩
  case round =>
    clear HI
    obtain ⟨p, pre, Fr, H⟩ := hrel
    have hple := H.out.1.rd.hp
    obtain ⟨m, hm⟩ : ∃ m, l.length = p + m := ⟨l.length - p, by omega⟩
    have Hm : Hid (l.length = p + m) := hm
    clear hm hple
    have hdr : Hid ((l.drop p).length = m) := by
      show _ = _
      rw [List.length_drop, Hm.out]; omega
    by_cases hm0 : m = 0
    · subst hm0
      go_wp2_with fail
      refine (left_any _ R G p 0 0 l H.out.1.rd Hm.out).mono ?_
      rintro e w2 ⟨rfl, kk, rfl⟩
      go_wp2
      try rw [Exit.noGoto_ret]
      go_ret
      have hE := H.out.1.done hR hlt (w' := wr.drewN kk) ⟨rfl, rfl, rfl, Nat.le_refl _, fun _ _ _ => rfl⟩ (by rw [List.eq_nil_of_length_eq_zero hdr.out]; exact parseL_nil)
      exact ⟨hE.1, .inr ⟨hE.2.1, rfl, hE.2.2⟩⟩
    · have i0 : (0 : Int) < (m : Int) := by omega
      go_wp2_with fail
      refine (left_any _ R G p m 0 l H.out.1.rd Hm.out).mono ?_
      rintro e w2 ⟨rfl, kk, rfl⟩
      have Hrd2 : Hid (Rd (wr.drewN kk) R G p 0 l) := H.out.1.rd.drewN kk
      have HT2 : Hid (Turn (fun i => i = R) wr (wr.drewN kk)) := ⟨rfl, rfl, rfl, Nat.le_refl _, fun _ _ _ => rfl⟩
      obtain ⟨w2, hw2⟩ : ∃ w2, wr.drewN kk = w2 := ⟨_, rfl⟩
      rw [hw2] at Hrd2 HT2 ⊢
      clear hw2
      obtain ⟨E, hE'⟩ : ∃ E, E = (txt (l.drop p) 262144).2.2 := ⟨_, rfl⟩
      have HE : Hid (E = (txt (l.drop p) 262144).2.2) := hE'
      by_cases hE0 : E = 0
      · have hx3 := text_yes w2 R G p m 262144 l Hrd2.out Hm.out (by decide) (by rw [← hE']; exact hE0)
        clear hE'
        subst hE0
        obtain ⟨T, hT'⟩ : ∃ T, T = (txt (l.drop p) 262144).2.1 := ⟨_, rfl⟩
        obtain ⟨q, hq'⟩ : ∃ q, q = pay1 (l.drop p) := ⟨_, rfl⟩
        have HTq : Hid (T = (txt (l.drop p) 262144).2.1 ∧ q = pay1 (l.drop p)) := ⟨hT', hq'⟩
        have hTm : T ≤ m := by rw [hT', ← hdr.out]; exact (txt_bounds (l.drop p) 262144).2
        have hql : q.length ≤ T := by rw [hq']; unfold pay1; rw [List.length_drop, List.length_take, hT']; omega
        change Calls _ _ _ _ fun e w' => e = .returned (.string ⟨(pay1 (l.drop p)).toArray⟩) ∧ _ at hx3
        rw [← hT', ← hq'] at hx3
        clear hT' hq'
        obtain ⟨m2, hm2⟩ : ∃ m2, m = T + m2 := ⟨m - T, by omega⟩
        have Hm2 : Hid (m = T + m2) := hm2
        have HmT : Hid (l.length = (p + T) + m2) := by show _ = _; rw [Hm.out, hm2]; omega
        clear hm2
        go_wp2_with fail
        refine hx3.mono ?_
        rintro e w3 ⟨rfl, hrd3, hg3⟩
        clear hx3
        obtain ⟨c4, w4, hcv, hb4, hB4, hs4⟩ := run_bytes w3 ⟨q.toArray⟩
        have hsz : (ByteArray.mk q.toArray).size = q.length := rfl
        rw [hsz] at hcv hb4
        clear hsz
        have Hrd4 : Hid (Rd w4 R G (p + T) 0 l) := hrd3.turn (Turn.of_below (fun _ => False) hB4) id id
        have HT4 : Hid (Turn (fun i => i = R) wr w4) := (HT2.out.trans (Turn.of_grownBy hg3 (fun k hk => .inl (by cases hk; rfl))) (fun _ _ h => h)).trans (Turn.of_below (fun _ => False) hB4) (fun _ _ h => h.elim)
        have Hb4 : Hid (Bytes w4 (some ⟨w3.heap.size, 0, none⟩) q.length q ∧ wr.heap.size ≤ w3.heap.size ∧ w3.heap.size < w4.heap.size) := ⟨hb4, Nat.le_trans HT2.out.size hg3.size, by omega⟩
        clear hrd3 hg3 hb4 hB4 hs4
        by_cases h8 : m2 < 8
        · go_wp2_with fail
          refine (word_short w4 R G (p + T) m2 l Hrd4.out HmT.out h8).mono ?_
          rintro e w5 ⟨rfl, hrd5, hg5⟩
          go_wp2_with fail
          refine (err_any w5 R 110 hrd5.c1).mono ?_
          rintro e w6 ⟨rfl, rfl⟩
          have hT6 := HT4.out.trans (Turn.of_grownBy (Fp := fun i => i = R) hg5 (fun k hk => .inl (by cases hk; rfl))) (fun _ _ h => h)
          clear hrd5 hg5
          go_wp2
          try rw [Exit.noGoto_ret]
          go_ret
          have hR1 : rec1 (l.drop p) = .short := by
            unfold rec1
            rw [if_neg (by rw [← HE.out]; decide), if_neg (by rw [← HE.out]; decide), if_pos (by rw [← HTq.out.1, hdr.out, Hm2.out]; omega)]
          have hE := H.out.1.done hR hlt hT6 (parseL_short hR1)
          exact ⟨hE.1, .inr ⟨hE.2.1, rfl, hE.2.2⟩⟩
        · obtain ⟨V, hV'⟩ : ∃ V, V = wideVal ((l.drop (p + T)).take 8) 8 := ⟨_, rfl⟩
          have hx5 := word_yes w4 R G (p + T) m2 l Hrd4.out HmT.out h8
          rw [← hV'] at hx5
          have HV : Hid (V = wideVal ((l.drop (p + T)).take 8) 8) := hV'
          clear hV'
          go_wp2_with fail
          refine hx5.mono ?_
          rintro e w5 ⟨rfl, hrd5, hg5⟩
          go_wp2_with fail
          refine (err_any w5 R 0 hrd5.c1).mono ?_
          rintro e w6 ⟨rfl, rfl⟩
          have HT6 : Hid (Turn (fun i => i = R) wr w6) := HT4.out.trans (Turn.of_grownBy (Fp := fun i => i = R) hg5 (fun k hk => .inl (by cases hk; rfl))) (fun _ _ h => h)
          have hRne : R < wr.heap.size := H.out.2.1
          have Hb6 : Hid (Bytes w6 (some ⟨w3.heap.size, 0, none⟩) q.length q) := Hb4.out.1.kept hg5 (fun x hx e => by
            cases hx
            have : R = w3.heap.size := by simpa using e
            have := Hb4.out.2.1
            omega)
          have Hrd6 : Hid (Rd w6 R G (p + T + 8) 0 l) := hrd5
          have hqs : Hid (q.length ≤ 4194304) := by show _ ≤ _; have := HL.out; have := Hm.out; omega
          clear hx5 hrd5 hg5
          go_wp2_with fail
          refine (hash_nat (some ⟨w3.heap.size, 0, none⟩) q.length c4 q w6 Hb6.out (by have := hqs.out; unfold maxLen; omega)).mono ?_
          rintro e w7 ⟨rfl, rfl⟩
          by_cases hVq : V = (hashN q : Int)
          · have Hone : Hid (rec1 (l.drop p) = .one q (T + 8)) := by
              show _ = _
              unfold rec1
              rw [if_neg (by rw [← HE.out]; decide), if_neg (by rw [← HE.out]; decide), if_neg (by rw [← HTq.out.1, hdr.out, Hm2.out]; omega), if_neg (by rw [← HTq.out.1, ← HTq.out.2, List.drop_drop, ← HV.out, hVq]; simp), ← HTq.out.1, ← HTq.out.2]
            subst hVq
            have HJ7 : Hid (JAt w7 j d nm pre p false Fr) := (H.out.1.turnR hR HT6.out).2
            have hpn : Hid (pre.length * 9 + pre.flatten.length ≤ p ∧ p + T ≤ n) := ⟨HJ7.out.cnt, by have := HL.out; have := HmT.out; omega⟩
            have hx8 := add_any j 2 pre Fr w7 (some ⟨w3.heap.size, 0, none⟩) q.length c4 q HJ7.out.pay HJ7.out.fj HJ7.out.lt Hb6.out (fun _ x hx hf => by
              cases hx
              have h1 : w3.heap.size < wr.heap.size := H.out.1.at_.lt _ hf
              have := Hb4.out.2.1
              omega) (by have := hpn.out; omega) (by have := hpn.out; omega)
            go_wp2_with fail
            refine hx8.mono ?_
            rintro e w8 ⟨rfl, hp8, hT8, hR8⟩
            have HP8 : Hid (IsPay w8 j 2 (pre ++ [q]) (grow Fr w7 w8) ∧ Turn Fr w7 w8 ∧ Rest j 2 w7 w8) := ⟨hp8, hT8, hR8⟩
            have hGw : Hid (G < wr.heap.size) := H.out.2.2 (by have := HL.out; have := Hm.out; omega)
            have Hrd8 : Hid (Rd w8 R G (p + T + 8) 0 l) := Hrd6.out.turn hT8 H.out.1.nr H.out.1.ng
            obtain ⟨m3, hm3⟩ : ∃ m3, m2 = 8 + m3 := ⟨m2 - 8, by omega⟩
            have Hm3 : Hid (l.length = (p + T + 8) + m3 ∧ n = (p + T + 8) + m3) := ⟨by have := HmT.out; omega, by have := HmT.out; have := HL.out; omega⟩
            clear hx8 hp8 hT8 hR8 hm3
            go_wp2_with fail
            refine (left_any w8 R G (p + T + 8) m3 0 l Hrd8.out Hm3.out.1).mono ?_
            rintro e w9 ⟨rfl, kk9, rfl⟩
            have c5 : (w8.drewN kk9).cell? ⟨j, 5, none⟩ = some (.int .i64 p) := (HP8.out.2.2.1 5 (by decide) (by decide) (by decide)).trans HJ7.out.c5
            have f5 : (w8.drewN kk9).frozen? ⟨j, 5, none⟩ = false := (HP8.out.2.2.2 5).trans HJ7.out.f5
            have i9 : (m3 : Int) ≤ (n : Int) := by have := Hm3.out.2; omega
            have HN : Hid (∀ z : Int, z = ((p + (T + 8) : Nat) : Int) → RInv w ((w8.drewN kk9).setCell ⟨j, 5, none⟩ (.int .i64 z)) j d R G nm l F (p + (T + 8)) (pre ++ [q]) (grow Fr w7 w8)) := fun z hz =>
              H.out.1.next hR hGw.out hRne (by have := HL.out; omega) (fun e => hm0 (by rw [← hdr.out, e]; rfl)) Hone.out HT6.out (by rw [← Nat.add_assoc]; exact Hrd6.out) HP8.out.1 HP8.out.2.1 HP8.out.2.2 hz rfl rfl rfl rfl
            go_wp2
            go_roundw
            case rel =>
              refine ⟨p + (T + 8), pre ++ [q], grow Fr w7 w8, HN.out _ (by have := Hm3.out.2; omega), ?_, ?_⟩
              · have := HT6.out.size; have := HP8.out.2.1.size; simp [World.setCell, World.drewN]; omega
              · intro _; have := HT6.out.size; have := HP8.out.2.1.size; have := hGw.out; simp [World.setCell, World.drewN]; omega
            case measure =>
              have c1 : wr.cell? ⟨R, 0, none⟩ = some (.int .i64 p) := H.out.1.rd.c0
              have hz : ((n : Int) - (m3 : Int)) = ((p + (T + 8) : Nat) : Int) := by have := Hm3.out.2; omega
              have c2 := (HN.out _ hz).rd.c0
              rw [c1, c2]
              simp [intOf]
              have := Hm3.out.2
              omega
          · have hVq' : ¬ (hashN q : Int) = V := fun e => hVq e.symm
            go_wp2
            try rw [Exit.noGoto_ret]
            go_ret
            have hR1 : rec1 (l.drop p) = .wrong := by
              unfold rec1
              rw [if_neg (by rw [← HE.out]; decide), if_neg (by rw [← HE.out]; decide), if_neg (by rw [← HTq.out.1, hdr.out, Hm2.out]; omega), if_pos (by rw [← HTq.out.1, ← HTq.out.2, List.drop_drop, ← HV.out]; exact hVq)]
            have hE := H.out.1.bad hR HT6.out (parseL_wrong (fun e => hm0 (by rw [← hdr.out, e]; rfl)) hR1)
            exact ⟨hE.1, .inl ⟨hE.2, rfl⟩⟩
      · have hEb : (E != 0) = true := by simpa using hE0
        have hx3 := text_no w2 R G p m 262144 l Hrd2.out Hm.out (by decide) (by rw [← hE']; exact hEb)
        rw [← hE'] at hx3
        clear hE'
        go_wp2_with fail
        refine hx3.mono ?_
        rintro e w3 ⟨rfl, hrd3, hg3⟩
        clear hx3
        obtain ⟨c4, w4, hcv, hb4, hB4, hs4⟩ := run_bytes w3 ⟨#[]⟩
        have Hrd4 : Hid (Rd w4 R G p E l) := hrd3.turn (Turn.of_below (fun _ => False) hB4) id id
        have HT4 : Hid (Turn (fun i => i = R) wr w4) := (HT2.out.trans (Turn.of_grownBy hg3 (fun k hk => .inl (by cases hk; rfl))) (fun _ _ h => h)).trans (Turn.of_below (fun _ => False) hB4) (fun _ _ h => h.elim)
        clear hrd3 hg3 hb4 hB4 hs4
        go_wp2_with fail
        refine (word_stuck w4 R G p E l Hrd4.out hEb).mono ?_
        rintro e w5 ⟨rfl, rfl⟩
        go_wp2_with fail
        refine (err_any w5 R E Hrd4.out.c1).mono ?_
        rintro e w6 ⟨rfl, rfl⟩
        by_cases h110 : E = 110
        · subst h110
          go_wp2
          try rw [Exit.noGoto_ret]
          go_ret
          have hR1 : rec1 (l.drop p) = .short := by unfold rec1; rw [if_pos HE.out.symm]
          have hE := H.out.1.done hR hlt HT4.out (parseL_short hR1)
          exact ⟨hE.1, .inr ⟨hE.2.1, rfl, hE.2.2⟩⟩
        · go_wp2
          try rw [Exit.noGoto_ret]
          go_ret
          have hR1 : rec1 (l.drop p) = .wrong := by unfold rec1; rw [if_neg (by rw [← HE.out]; exact h110), if_pos (by rw [← HE.out]; exact hE0)]
          have hE := H.out.1.bad hR HT4.out (parseL_wrong (fun e => hm0 (by rw [← hdr.out, e]; rfl)) hR1)
          exact ⟨hE.1, .inl ⟨hE.2, rfl⟩⟩

end Go.Proofs.YtdjodigimhgklaaGreatDoor

/- A slice of slices of pairs that came in. -/
namespace Go.Proofs.YtdjodigimhgklaaGreatDoor
open Go.ChangeShapes Go.WideShapes Go.ChangeAt Go.RowKit

/-- a slice of slices of pairs, as it came in -/
structure RowsIn (W : World) (a : Option Addr) (n c : Nat) (ls : List (List Pr)) : Prop where
  len : ls.length = n
  cells : 0 < n → ∃ b o, a = some ⟨b, o, none⟩ ∧ ∀ (i : Nat) l, ls[i]? = some l → ∃ ad k cp, W.cell? ⟨b, o + i, none⟩ = some (.slice ad k cp) ∧ PrIn W ad k cp l
  cap : n ≤ c
set_option maxRecDepth 100000 in
theorem rows_arg {H : Type} {enc : TypeId × Value → H} {W : World} {base : Nat} {v : Value} {d : DataW H} {ps : List MemPlace} (hok : Value.okWide Tryz.prog W .any base 24 v)
    (h : DataW.Trod enc Tryz.prog W 0 (fun _ => true) true 24 v d ps) :
    ∃ a n cap ls, v = .slice a n cap ∧ RowsIn W a n cap ls := by
  obtain ⟨a, n, cap, rfl⟩ := okWide_slice Tryz.underlying24 hok
  obtain ⟨fuel, hf⟩ := h
  rcases Deep.open_slice Tryz.underlying24 hf with ⟨hcs, _⟩ | ⟨x, len, c, m, j, D, Pl, hcs, _, hl, hmx, hm, hx, hel⟩
  · simp [Value.cells] at hcs
    obtain ⟨rfl, rfl, rfl⟩ := hcs
    exact ⟨none, 0, 0, [], rfl, ⟨rfl, fun h0 => (by omega), Nat.le_refl _⟩⟩
  · simp [Value.cells] at hcs
    obtain ⟨rfl, rfl, rfl⟩ := hcs
    simp only [if_true] at hm
    have hcell : ∀ i, i < n → ∃ p : List Pr, ∃ ad k cp, W.cell? (x.add i) = some (.slice ad k cp) ∧ PrIn W ad k cp p := by
      intro i hi
      obtain ⟨cs', hc1, hc2⟩ := hel i (by omega)
      rw [show Tryz.prog.cellsOf 36 = 1 from by kernel_rfl] at hc1
      obtain ⟨_, hlen2, hget⟩ := World.cells?_some hc1
      match cs', hlen2 with
      | [c0], _ =>
        have g0 := hget 0 (by omega)
        rw [Deep.add_add] at g0
        obtain ⟨a', n', cap', l', rfl, h1⟩ := pairs_cell hc2
        exact ⟨l', a', n', cap', by simpa using g0, h1⟩
    obtain ⟨g, hg⟩ := Deep.choose_lt hcell
    have hgy : ∀ (i : Nat) y, ((List.range n).map g)[i]? = some y → i < n ∧ y = g i := fun i y hy => by
      have hi : i < n := by have := (List.getElem?_eq_some_iff.1 hy).1; simpa using this
      rw [List.getElem?_map, List.getElem?_range hi] at hy
      exact ⟨hi, (Option.some.inj hy).symm⟩
    refine ⟨some x, n, cap, (List.range n).map g, rfl, ⟨by simp, fun h0 => ?_, hl⟩⟩
    obtain ⟨b, off, spot⟩ := x
    obtain ⟨_, _, _, hc, _⟩ := hg 0 h0
    have hspot : spot = none := by simpa [Addr.add] using World.cell?_spot hc
    subst hspot
    refine ⟨b, off, rfl, fun i y hy => ?_⟩
    obtain ⟨hi, rfl⟩ := hgy i y hy
    obtain ⟨ad, k, cp, e1, e2⟩ := hg i hi
    rw [Addr.add_lit] at e1
    exact ⟨ad, k, cp, e1, e2⟩
end Go.Proofs.YtdjodigimhgklaaGreatDoor

/- The walks of form: the bytes of a run. -/
namespace Go.Proofs.YtdjodigimhgklaaGreatDoor
open Go.RowKit Go.Shelf Go.Maps

attribute [local go_sem] Oper.semAt_some

theorem vzero_size (n : Nat) : (Builtin.zeroCells (Value.cells (.int .u8 0)) n).size = n := by
  unfold Builtin.zeroCells
  simp [Value.cells]
set_option maxHeartbeats 1000000 in
theorem vgrow_any (w : World) (B : Nat) (v : Value) (n m : Nat) (l : List UInt8) (hown : w.ownsRow B 5 1 v n (cellsOf l)) (hB : B ≤ w.heap.size) (hn : n + m ≤ 1000000000) :
    Calls Tryz.prog 108 #[v, .int .i64 (m : Int)] w fun e w' => ∃ v', e = .returned v' ∧ w'.ownsRow B 5 1 v' n (cellsOf l) ∧ Below w.heap.size w w' := by
  obtain ⟨i0, hi, hz0, hz1, hz2⟩ := info_parts Tryz.info5
  have hBd : Below w.heap.size w w.drew := ⟨rfl, rfl, rfl, Nat.le_refl _, fun _ _ => rfl⟩
  have new : ∀ (c : Nat) (cur : Array Value), n ≤ c → c < n + m → cur.size = c → cur.toList.take n = cellsOf l →
      (w.drew.alloc (.cells (cur.toList.toArray ++ Builtin.zeroCells (Value.cells (.int .u8 0)) (n + m - c) ++ Builtin.zeroCells (Value.cells (.int .u8 0)) (grownCap w (n + m) c 5 - (n + m))) 5)).ownsRow B 5 1 (.slice (some ⟨w.heap.size, 0, none⟩) n (grownCap w (n + m) c 5)) n (cellsOf l) := by
    intro c cur h1 h2 h3 h4
    have hge := grownCap_ge w (n + m) c 5
    have hle := grownCap_le_maxLen w (n + m) c 5 (by unfold maxLen; omega)
    refine ⟨by have := hown.1; omega, .inr ⟨w.heap.size, _, _, rfl, hB, World.alloc_heap_new w.drew _, by omega, hle, ?_, ?_⟩⟩
    · simp only [Array.size_append, vzero_size, List.size_toArray, Array.length_toList]
      omega
    · simp only [Array.toList_append, Nat.mul_one]
      rw [List.append_assoc, List.take_append_of_le_length (by simp; omega)]
      exact h4
  rcases hown.2 with ⟨rfl, hn0⟩ | ⟨g, cap, cur, rfl, hg0, hg, hnc, hcm, hcs, ht⟩
  · by_cases hm0 : m = 0
    · subst hm0
      refine Calls.mono (Any8.slices_Grow_room Tryz.growB none 0 0 0 w (Nat.le_refl _) (by omega) (by omega) (by omega)) ?_
      rintro e w' ⟨rfl, rfl⟩
      exact ⟨_, rfl, hown, Below.refl _ _⟩
    · have hl : l = [] := by
        have := hown.1
        rw [cellsOf_length] at this
        exact List.eq_nil_of_length_eq_zero (by omega)
      subst hn0
      have hN := Any8.slices_Grow_grow Tryz.growB i0 _ hi hz0 (by omega) none 0 0 m [] w (Nat.le_refl _) (by omega) (by rw [hz2]; omega) (by omega) (by simp) (fun _ => rfl) (fun _ h => by cases h)
      refine Calls.mono hN ?_
      rintro e w' ⟨rfl, rfl⟩
      exact ⟨_, rfl, new 0 #[] (by omega) (by omega) rfl (by subst hl; rfl), hBd.trans ((Below.refl _ w.drew).alloc (Nat.le_refl _) _)⟩
  · have hcm' : cap ≤ 9223372036854775807 := by unfold maxLen at hcm; omega
    simp only [Nat.mul_one] at hcs ht
    by_cases hroom : n + m ≤ cap
    · refine Calls.mono (Any8.slices_Grow_room Tryz.growB _ n cap m w hnc hcm' (by omega) hroom) ?_
      rintro e w' ⟨rfl, rfl⟩
      exact ⟨_, rfl, hown, Below.refl _ _⟩
    · have hG := Any8.slices_Grow_grow Tryz.growB i0 _ hi hz0 (by omega) (some ⟨g, 0, none⟩) n cap m cur.toList w hnc (by omega) (by rw [hz2]; omega) (by omega) (by rw [hz1, Array.length_toList]; omega) (fun h => by cases h) (fun a ha j v hj => by
        cases ha
        rw [Addr.add_lit]
        simp only [World.cell?, hg]
        show cur[0 + j]? = _
        rw [Nat.zero_add, ← Array.getElem?_toList]
        exact hj)
      refine Calls.mono hG ?_
      rintro e w' ⟨rfl, rfl⟩
      exact ⟨_, rfl, new cap cur hnc (by omega) hcs ht, hBd.trans ((Below.refl _ w.drew).alloc (Nat.le_refl _) _)⟩

/-- blocks of another type than bytes stand, but for B -/
def VKeeps (B : Nat) (W W' : World) : Prop := ∀ K cs t, W.heap[K]? = some (.cells cs t (0, 0)) → t ≠ 5 → K ≠ B → W'.heap[K]? = some (.cells cs t (0, 0))
theorem VKeeps.trans {B : Nat} {X Y Z : World} (h : VKeeps B X Y) (k : VKeeps B Y Z) : VKeeps B X Z := fun K cs t a b c => k K cs t (h K cs t a b c) b c
theorem VKeeps.of {B : Nat} {X Y : World} (h : Below X.heap.size X Y) : VKeeps B X Y := fun K _ _ a _ _ => (h.block K (Array.getElem?_eq_some_iff.1 a).1).trans a

set_option maxRecDepth 20000 in
set_option maxHeartbeats 1000000 in
theorem vput_any (w0 : World) (B : Nat) (l : List UInt8) (x : Nat) (W : World) (h : VOut w0 B l W) (hx : x < 18446744073709551616) (hm : l.length ≤ 70368744177664) :
    Calls Tryz.prog 110 #[.int .u64 (x : Int), .pointer (some ⟨B, 0, none⟩)] W fun e W' => e = .returned (.tuple #[]) ∧ VOut w0 B (l ++ wide x) W' ∧ VKeeps B W W' := by
  have hmx : Tryz.prog.follows .mixedOrders = true := by kernel_rfl
  obtain ⟨v, hv, ho⟩ := h.box
  obtain ⟨ad, cp, rfl, _⟩ := vrow_shape ho
  have hsz := h.bel.size
  have d1 : 33 ≠ 5 := by decide
  have HV : Hid (VOut w0 B l W ∧ Boxed W B 33 (.slice ad l.length cp) ∧ W.ownsRow w0.heap.size 5 1 (.slice ad l.length cp) l.length (cellsOf l)) := ⟨h, hv, ho⟩
  have hc : ∀ W1, Below W.heap.size W W1 → Calls Tryz.prog 111 #[.slice none 0 0, .int .u64 (x : Int)] W1 fun e w' => ∃ v, e = .returned v ∧ ∃ g c, v = .slice (some ⟨g, 0, none⟩) 8 c ∧ Bytes w' (some ⟨g, 0, none⟩) 8 (wide x) ∧ Below W1.heap.size W1 w' := fun W1 _ => by
    have hp := putWord_any none 0 0 x [] W1 ⟨rfl, fun h => absurd h (by omega)⟩ (by omega) hx
    simp only [Nat.zero_add, List.nil_append] at hp
    refine hp.mono ?_
    rintro e w' ⟨g, c, rfl, ho, hg⟩
    exact ⟨_, rfl, g, c, rfl, vrow_bytes ho, vgrown_below hg⟩
  have HC : Hid (∀ W1, Below W.heap.size W W1 → Calls Tryz.prog 111 #[.slice none 0 0, .int .u64 (x : Int)] W1 fun e w' => ∃ v, e = .returned v ∧ ∃ g c, v = .slice (some ⟨g, 0, none⟩) 8 c ∧ Bytes w' (some ⟨g, 0, none⟩) 8 (wide x) ∧ Below W1.heap.size W1 w') := hc
  have HM : Hid (l.length ≤ 70368744177664) := hm
  clear h ho hc hx hm
  go_enter Tryz.func110, Tryz.ntmps110
  generalize l.length = N at *
  have cv := hv.cell
  clear hv
  refine wp_region_G (S := SB 3 (fun Y => Y.cell? ⟨B, 0, none⟩ = some (.slice ad N cp)) (fun _ => True)) hmx ?_
  have hSB : SB 3 (fun Y => Y.cell? ⟨B, 0, none⟩ = some (.slice ad N cp)) (fun _ => True) (Array.replicate 5 false) W.drew := SB.on cv trivial
  refine wpAnyG_takeB (i := 0) (b := 3) (v := ?_) rfl (by kernel_rfl) (by kernel_rfl) (by kernel_rfl) (fun _ _ _ h => h) rfl (by kernel_rfl) (by rfl) (by kernel_rfl) (Or.inl ⟨by rfl, ?_⟩) (by assumption) ?_
  rotate_left
  · intro Y hY; obtain ⟨y0, _⟩ := hY; go_simp; try with_reducible rfl
  intro hSB0
  try simp only [Act.put, List.getElem_toArray, List.getElem_cons_zero, List.setIfInBounds_toArray, List.set_cons_zero, List.set_cons_succ]
  refine wpAnyG_takeP (i := 1) (v := ?_) rfl (by kernel_rfl) (by kernel_rfl) (by kernel_rfl) (fun _ _ _ h => h) rfl (Or.inl ⟨by rfl, ?_⟩) (by assumption) ?_
  rotate_left
  · intro Y _; go_simp; try with_reducible rfl
  intro hSB1
  try simp only [Act.put, List.getElem_toArray, List.getElem_cons_zero, List.getElem_cons_succ, List.setIfInBounds_toArray, List.set_cons_zero, List.set_cons_succ]
  refine wpAnyG_one (i := 2) (by kernel_rfl) rfl (fun K hK => ?_)
  have hBd : Below W.heap.size W W.drew := ⟨rfl, rfl, rfl, Nat.le_refl _, fun _ _ => rfl⟩
  refine vstep_putWord0 _ (by rfl) _ _ _ (by rfl) _ (by rfl) _ (HC.out _ hBd) ?_
  rintro v w1 ⟨g, c, rfl, hby, hB1⟩
  have H1 : Hid (Bytes w1 (some ⟨g, 0, none⟩) 8 (wide x) ∧ Below W.heap.size W w1) := ⟨hby, hBd.trans hB1⟩
  clear hby hB1 hBd
  refine hK.out _ _ (SB.on ((H1.out.2.block B HV.out.2.1.lt).trans HV.out.2.1 |> Boxed.cell) trivial) (fun hSB2 => ?_)
  clear hK K
  try simp only [Act.put, List.getElem_toArray, List.getElem_cons_zero, List.getElem_cons_succ, List.setIfInBounds_toArray, List.set_cons_zero, List.set_cons_succ]
  have HL : Hid (VOut w0 B l w1 ∧ Boxed w1 B 33 (.slice ad N cp) ∧ w1.ownsRow w0.heap.size 5 1 (.slice ad N cp) N (cellsOf l)) := ⟨HV.out.1.below H1.out.2, (H1.out.2.block B HV.out.2.1.lt).trans HV.out.2.1, HV.out.2.2.kept (row := none) ⟨H1.out.2.os, H1.out.2.tape, H1.out.2.output, H1.out.2.size, fun k hk _ => H1.out.2.block k hk⟩ (by cases (Value.slice ad N cp).ownBlock <;> simp)⟩
  refine wpAnyG_one (i := 3) (by kernel_rfl) rfl (fun K hK => ?_)
  refine vstep_app _ (by rfl) _ _ (by rfl) w0.heap.size HL.out.1.bel.size _ N _ (by rfl) HL.out.2.2 (some ⟨g, 0, none⟩) 8 c (wide x) (by rfl) H1.out.1 (fun h => by cases h) (by have := HM.out; omega) ?_
  intro ad2 c2 w2 ho2 hg2
  have hv2 : Boxed w2 B 33 (.slice ad N cp) := HL.out.2.1.kept hg2 (HL.out.2.1.not_row d1 HL.out.2.2)
  refine hK.out _ _ (SB.off (by kernel_rfl) trivial) (fun hSB3 => ?_)
  clear hK K
  try simp only [Act.put, List.getElem_toArray, List.getElem_cons_zero, List.getElem_cons_succ, List.setIfInBounds_toArray, List.set_cons_zero, List.set_cons_succ]
  have HE : Hid (VOut w0 B (l ++ wide x) (w2.setCell ⟨B, 0, none⟩ (.slice ad2 (N + 8) c2)) ∧ VKeeps B W (w2.setCell ⟨B, 0, none⟩ (.slice ad2 (N + 8) c2))) := by
    have e : N + 8 = (l ++ wide x).length := by
      have := HV.out.2.2.1
      rw [cellsOf_length] at this
      rw [List.length_append, vwide_len]; omega
    refine ⟨⟨⟨_, hv2.set _, ?_⟩, ?_, HL.out.1.le⟩, fun K cs t hK ht hKB => ?_⟩
    · rw [← e, cellsOf_append]
      exact ho2.kept (grownBy_setCell' w2 B _) (.inr (hv2.not_row d1 ho2).symm)
    · exact (HL.out.1.bel.grown hg2 HL.out.1.bel.size (fun k hk => (vrow_block HL.out.2.2 k hk).1)).setCell (p := ⟨B, 0, none⟩) HL.out.1.le _
    · have hK1 : w1.heap[K]? = some (.cells cs t (0, 0)) := (H1.out.2.block K (Array.getElem?_eq_some_iff.1 hK).1).trans hK
      have hlt : K < w1.heap.size := (Array.getElem?_eq_some_iff.1 hK1).1
      have h2 : w2.heap[K]? = some (.cells cs t (0, 0)) := (hg2.block K hlt (fun e => by
        obtain ⟨_, _, cur, hcur⟩ := vrow_block HL.out.2.2 K e.symm
        rw [hK1] at hcur
        cases hcur
        exact ht rfl)).trans hK1
      exact (Below.heap_setCell _ _ _ _ hKB).trans h2
  have c2v := hv2.cell
  have f2v := hv2.frozen
  clear hv2 ho2 hg2 HL H1 HC HV
  refine wpAnyG_one (i := 4) (by kernel_rfl) rfl (fun K hK => ?_)
  go_simp
  refine hK.out _ _ (SB.off (by kernel_rfl) trivial) (fun hSB4 => ?_)
  clear hK K
  refine wpAnyG_done (by kernel_rfl) ?_ _
  clear hSB hSB0 hSB1 hSB2 hSB3 hSB4 c2v f2v
  generalize w2.setCell ⟨B, 0, none⟩ (.slice ad2 (N + 8) c2) = W3 at *
  go_wp2
  go_end0
  exact ⟨rfl, HE.out.1, HE.out.2⟩
end Go.Proofs.YtdjodigimhgklaaGreatDoor
