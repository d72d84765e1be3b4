import Derived.Test.YtdjodigimhgklaaGreatDoorN35
import Derived.Test.YtdjodigimhgklaaGreatDoorN30
import Derived.Test.YtdjodigimhgklaaGreatDoorN22
import Derived.Test.YtdjodigimhgklaaGreatDoorN08
import Derived.Test.YtdjodigimhgklaaGreatDoorN04
/- The memo's Keys: the keys of all journals of a disk. -/
namespace Go.Proofs.YtdjodigimhgklaaGreatDoor
open Go.RowKit Go.Shelf Go.Maps

attribute [local go_sem] Oper.semAt_some

/-- the keys of a disk's memos -/
def keysL : List (List UInt8) → List Nat
  | [] => []
  | x :: r => if (whoP x).1 ≠ 0 ∧ (whoP x).2 = 0 then (whoP x).1 :: keysL r else keysL r
theorem keysL_app : ∀ a b, keysL (a ++ b) = keysL a ++ keysL b
  | [], b => rfl
  | x :: r, b => by
    simp only [List.cons_append, keysL, keysL_app r b]
    split <;> rfl
/-- what Keys answers -/
def KeysA (w : World) (S : DG) (e : Ending) (w' : World) : Prop :=
  ∃ ns ad c, S.Lists ns ∧ e = .returned (.slice ad (keysL ns).length c) ∧ w'.ownsRow w.heap.size 23 1 (.slice ad (keysL ns).length c) (keysL ns).length ((keysL ns).map idV) ∧ Below w.heap.size w w'

set_option maxRecDepth 100000 in
set_option maxHeartbeats 4000000 in
theorem ykeys_any (w : World) (d : Nat) (S : DG) (G : Nat → Prop) (hd : IsDisk w d S G) (hnm : ∀ x, (S.f x).isSome = true → x.length ≤ 32) (hn : S.n ≤ 1000000) :
    Calls Tryz.prog 18 #[.pointer (some ⟨d, 0, none⟩)] w (KeysA w S) := by
  have hns := names_any d S G w hd hn
  clear hd
  go_enter Tryz.func18, Tryz.ntmps18
  go_wp2_with (go_at_call 26; refine hns.mono ?_; clear hns; rintro e w1 ⟨ns, na, nc, rfl, hLs, hown, hB1⟩)
  obtain ⟨ad0, c0', e0, _, _, hcell⟩ := ownsRow_strs hown
  cases e0
  have H1 : Hid (S.Lists ns ∧ (∀ i x, ns[i]? = some x → ∃ b, na = some ⟨b, 0, none⟩ ∧ b < w1.heap.size ∧ w1.cell? ⟨b, i, none⟩ = some (encStr x)) ∧ Below w.heap.size w w1) := ⟨hLs, fun i x hx => by
    obtain ⟨b, h1, _, h3, h4⟩ := hcell i (encStr x) (by rw [List.getElem?_map, hx]; rfl)
    exact ⟨b, h1, h3, h4⟩, hB1⟩
  have hlen : ns.length ≤ 1000000 := by rw [hLs.len]; exact hn
  clear hLs hown hB1 hcell
  obtain ⟨N, hN⟩ : ∃ N, N = ns.length := ⟨_, rfl⟩
  have HN : Hid (N = ns.length) := hN
  rw [← hN]
  rw [← hN] at hlen
  clear hN
  obtain ⟨i0, hi, hz0, hz1, hz2⟩ := info_parts infoIdV
  go_wp2_with fail
  go_loopw [3, 11] (fun v i wr => ∃ (k q : Nat) (la : Option Addr) (lc : Nat), k ≤ N ∧ q ≤ k ∧ i = .int .i64 (k : Int) ∧ v = .slice la q lc ∧ Hid (q = (keysL (ns.take k)).length ∧ wr.ownsRow w1.heap.size 23 1 (.slice la q lc) q ((keysL (ns.take k)).map idV) ∧ Below w1.heap.size w1 wr)) (fun _ i _ => N - (intOf i).toNat)
  case atStart => exact ⟨0, 0, none, 0, Nat.zero_le _, Nat.le_refl _, rfl, rfl, rfl, World.ownsRow_nil _ _ _ _, Below.refl _ _⟩
  case round =>
    obtain ⟨k, q, la, lc, hk, hqk, rfl, rfl, H⟩ := hrel
    by_cases hlt : k < N
    · obtain ⟨x, hx⟩ : ∃ x, ns[k]? = some x := ⟨_, List.getElem?_eq_getElem (by rw [← HN.out]; exact hlt)⟩
      obtain ⟨b1, rfl, hb1, t0⟩ := H1.out.2.1 k x hx
      have t1 := (H.out.2.2.cell (p := ⟨b1, k, none⟩) hb1).trans t0
      obtain ⟨s, hs1, hs2⟩ := encStr_list x
      rw [hs1] at t1
      have hx32 := hnm x (H1.out.1.mem x (List.mem_of_getElem? hx)).1
      have hwho := whose_any s wr (by have : s.data.toList.length = s.size := by simp
                                      rw [hs2] at this; omega)
      rw [hs2] at hwho
      obtain ⟨K, hK⟩ : ∃ K, K = (whoP x).1 := ⟨_, rfl⟩
      obtain ⟨R, hR⟩ : ∃ R, R = (whoP x).2 := ⟨_, rfl⟩
      rw [← hK, ← hR] at hwho
      have i1 : (k : Int) < (N : Int) := by omega
      have i2 : ¬ N ≤ k := by omega
      have HE : Hid (ns.take (k + 1) = ns.take k ++ [x] ∧ (K ≠ 0 ∧ R = 0 → keysL [x] = [K]) ∧ (¬ (K ≠ 0 ∧ R = 0) → keysL [x] = [])) := by
        refine ⟨by rw [List.take_add_one, hx]; rfl, fun h => ?_, fun h => ?_⟩
        · rw [keysL, ← hK, ← hR, if_pos h]; rfl
        · rw [keysL, ← hK, ← hR, if_neg h]; rfl
      have hsame : ¬ (K ≠ 0 ∧ R = 0) → q = (keysL (ns.take (k + 1))).length ∧ wr.ownsRow w1.heap.size 23 1 (.slice la q lc) q ((keysL (ns.take (k + 1))).map idV) ∧ Below w1.heap.size w1 wr := fun h => by
        rw [HE.out.1, keysL_app, HE.out.2.2 h, List.append_nil]
        exact H.out
      clear hx t0 hs1 hs2 hx32 hK hR hb1
      by_cases hk1 : K = 0
      · have a1 : ((K : Int) != 0) = false := by simp [hk1]
        have HZ : Hid (q = (keysL (ns.take (k + 1))).length ∧ wr.ownsRow w1.heap.size 23 1 (.slice la q lc) q ((keysL (ns.take (k + 1))).map idV) ∧ Below w1.heap.size w1 wr) := hsame (fun h => h.1 hk1)
        clear HE H hsame hk1
        go_wp2_with (go_at_call 52; refine hwho.mono ?_; clear hwho; rintro e w2 ⟨rfl, hw2⟩; subst hw2)
        go_roundw
        case rel => exact ⟨k + 1, q, la, lc, by omega, by omega, by go_num, rfl, HZ.out⟩
        case measure => simp [intOf]; omega
      · have a1 : ((K : Int) != 0) = true := by simpa using hk1
        by_cases hr1 : R = 0
        · have a2 : ((R : Int) == 0) = true := by simp [hr1]
          have HG2 : Hid (keysL [x] = [K]) := HE.out.2.1 ⟨hk1, hr1⟩
          have hrow' := H.out.2.1.alloc (.cells #[idV K] 23)
          have hsz := H.out.2.2.size
          clear hsame hr1
          go_wp2_with first
            | (at_builtin; refine wpList_append_own_at _ rfl _ _ 47 rfl w1.heap.size 23 i0 _ 1 8 Tryz.underlying47 hi hz0 hz1 hz2 rfl (by decide) _ q _ rfl hrow' ⟨_, 0, none⟩ 1 1 [idV K] rfl (by exact rfl) (by simpa using cell_one_new _ _ _) (by simp [Value.oneCell']) (by unfold maxLen; omega) (by omega) (by simp; omega) ?_; intro v6 w6 hown6 hgr6 _ _)
            | (go_at_call 52; refine hwho.mono ?_; clear hwho; rintro e w2 ⟨rfl, hw2⟩; subst hw2)
          obtain ⟨la6, lc6, rfl, _⟩ := irow_shape hown6
          have HZ : Hid (q + 1 = (keysL (ns.take (k + 1))).length ∧ w6.ownsRow w1.heap.size 23 1 (.slice la6 (q + 1) lc6) (q + 1) ((keysL (ns.take (k + 1))).map idV) ∧ Below w1.heap.size w1 w6) := by
            rw [HE.out.1, keysL_app, HG2.out]
            refine ⟨by rw [List.length_append, ← H.out.1]; rfl, by rw [List.map_append]; exact hown6, (H.out.2.2.alloc hsz _).grown hgr6 (by simp; omega) (fun z hz => (irow_block hrow' z hz).1)⟩
          clear HE H hown6 hgr6 HG2 hrow'
          go_roundw
          case rel => exact ⟨k + 1, q + 1, la6, lc6, by omega, by omega, by go_num, rfl, HZ.out⟩
          case measure => simp [intOf]; omega
        · have a2 : ((R : Int) == 0) = false := by simpa using hr1
          have HZ : Hid (q = (keysL (ns.take (k + 1))).length ∧ wr.ownsRow w1.heap.size 23 1 (.slice la q lc) q ((keysL (ns.take (k + 1))).map idV) ∧ Below w1.heap.size w1 wr) := hsame (fun h => hr1 h.2)
          clear HE H hsame
          go_wp2_with (go_at_call 52; refine hwho.mono ?_; clear hwho; rintro e w2 ⟨rfl, hw2⟩; subst hw2)
          go_roundw
          case rel => exact ⟨k + 1, q, la, lc, by omega, by omega, by go_num, rfl, HZ.out⟩
          case measure => simp [intOf]; omega
    · obtain rfl : k = N := by omega
      have HZ : Hid (KeysA w S (.returned (.slice la q lc)) wr) := by
        have e : ns.take k = ns := List.take_of_length_le (by rw [← HN.out]; exact Nat.le_refl _)
        have h1 := H.out
        rw [e] at h1
        obtain ⟨h1, h2, h3⟩ := h1
        refine ⟨ns, la, lc, H1.out.1, by rw [← h1], ?_, H1.out.2.2.trans (h3.mono H1.out.2.2.size)⟩
        rw [← h1]
        exact ⟨h2.1, h2.2.imp id fun ⟨z, cap, cur, a1, a2, a3⟩ => ⟨z, cap, cur, a1, Nat.le_trans H1.out.2.2.size a2, a3⟩⟩
      have i1 : ¬ (k : Int) < (k : Int) := by omega
      clear H
      go_wp2
      go_ret
      exact HZ.out
end Go.Proofs.YtdjodigimhgklaaGreatDoor

/- The memo's decode: the numbers that a record says. -/
namespace Go.Proofs.YtdjodigimhgklaaGreatDoor
open Go.RowKit Go.Shelf Go.Maps

attribute [local go_sem] Oper.semAt_some

theorem Rd.turnB {w w' : World} {r g p : Nat} {e : Int} {l : List UInt8} {Fp : Nat → Prop} (h : Rd w r g p e l) (ht : Turn Fp w w') (h1 : ¬ Fp r) (h2 : 0 < l.length → ¬ Fp g) : Rd w' r g p e l where
  c0 := ht.cell h.c0 h1
  c1 := ht.cell h.c1 h1
  c2 := ht.cell h.c2 h1
  f0 := (ht.frozen (World.block_lt_of_cell? w _ h.c0) h1).trans h.f0
  f1 := (ht.frozen (World.block_lt_of_cell? w _ h.c1) h1).trans h.f1
  hp := h.hp
  hl := h.hl
  ne := h.ne
  row := fun i hi => ht.cell (h.row i hi) (h2 (by omega))
/-- a number read at p -/
def yuR (b : List UInt8) (p : Nat) (e : Int) : Nat × Nat × Int := if e ≠ 0 then (0, p, e) else if (num (b.drop p)).2.2 = 0 then ((num (b.drop p)).1.toNat, p + (num (b.drop p)).2.1, 0) else (0, p, (num (b.drop p)).2.2)
theorem yuR_fits (b : List UInt8) (p : Nat) (e : Int) : (yuR b p e).1 < 18446744073709551616 := by
  have := num_fits (b.drop p)
  unfold yuR
  split
  · simp
  · split
    · simp only; omega
    · simp
theorem yuint_any (w : World) (r g p : Nat) (e : Int) (b : List UInt8) (h : Rd w r g p e b) :
    Calls Tryz.prog 123 #[.pointer (some ⟨r, 0, none⟩)] w fun x w' => x = .returned (.int .u64 ((yuR b p e).1 : Int)) ∧ Rd w' r g (yuR b p e).2.1 (yuR b p e).2.2 b ∧ w.grownBy w' (some r) := by
  unfold yuR
  by_cases he : e = 0
  · subst he
    rw [if_neg (by simp)]
    by_cases hp : (num (b.drop p)).2.2 = 0
    · rw [if_pos hp]
      refine (uint_yes w r g p b h hp).mono fun x w' hx => ⟨?_, hx.2⟩
      rw [hx.1]
      have := num_fits (b.drop p)
      show Ending.returned (.int .u64 (num (b.drop p)).1) = Ending.returned (.int .u64 (((num (b.drop p)).1.toNat : Nat) : Int))
      rw [Int.toNat_of_nonneg this.1]
    · rw [if_neg hp]
      exact uint_no w r g p b h (by simp [hp])
  · rw [if_pos he]
    refine (uint_stuck w r g p e b h (by simp [he])).mono fun x w' hx => ⟨hx.1, ?_, ?_⟩
    · rw [hx.2]; exact h
    · rw [hx.2]; exact ⟨rfl, rfl, rfl, Nat.le_refl _, fun _ _ _ => rfl⟩
theorem yend_any (w : World) (r g p : Nat) (e : Int) (b : List UInt8) (h : Rd w r g p e b) :
    Calls Tryz.prog 124 #[.pointer (some ⟨r, 0, none⟩)] w fun x w' => ∃ z : Int, x = .returned (.int .i64 z) ∧ (z = 0 ↔ e = 0 ∧ p = b.length) ∧ Below w.heap.size w w' := by
  have hp := h.hp
  by_cases he : e = 0
  · subst he
    refine (end_ok w r g p (b.length - p) b h (by omega)).mono fun x w' hx => ?_
    obtain ⟨hx, k, rfl⟩ := hx
    refine ⟨_, hx, ?_, vbelow_drewN (Below.refl _ _) k⟩
    split
    · constructor
      · intro h; omega
      · intro h; omega
    · constructor
      · intro _; omega
      · intro _; rfl
  · refine (end_err w r e h.c1 (by simp [he])).mono fun x w' hx => ⟨e, hx.1, ?_, by rw [hx.2]; exact Below.refl _ _⟩
    constructor
    · intro h; exact absurd h he
    · intro h; exact h.1
/-- the numbers that follow; none: they are no record's -/
def decL (b : List UInt8) : Nat → List Nat → Nat → Int → Option (List Nat × Nat × Int)
  | 0, acc, p, e => some (acc, p, e)
  | k + 1, acc, p, e => if (yuR b p e).1 = 0 ∨ 2147483648 < (yuR b p e).1 ∨ (yuR b p e).1 ∈ acc then none else decL b k (acc ++ [(yuR b p e).1]) (yuR b p e).2.1 (yuR b p e).2.2
/-- what a record says, and whether it is one -/
def decR (b : List UInt8) : List Nat × Bool :=
  if 4 < (yuR b 0 0).1 then ([], false) else match decL b (yuR b 0 0).1 [] (yuR b 0 0).2.1 (yuR b 0 0).2.2 with
    | none => ([], false)
    | some (l, p, e) => if e = 0 ∧ p = b.length then (l, true) else ([], false)
/-- what decode answers -/
def DecA (w : World) (l : List Nat) (ok : Bool) (e : Ending) (w' : World) : Prop :=
  ∃ ad c, e = .returned (.tuple #[.slice ad l.length c, .bool ok]) ∧ w'.ownsRow w.heap.size 3 1 (.slice ad l.length c) l.length (l.map nV) ∧ Below w.heap.size w w'
theorem dec_nil {w w' : World} (hB : Below w.heap.size w w') : DecA w [] false (.returned (.tuple #[.slice none 0 0, .bool false])) w' := ⟨none, 0, rfl, World.ownsRow_nil _ _ _ _, hB⟩

set_option maxRecDepth 100000 in
set_option maxHeartbeats 4000000 in
theorem decode_anyY (w : World) (a : Option Addr) (n c : Nat) (b : List UInt8) (hb : Bytes w a n b) (hn : n ≤ 281474976710656) :
    Calls Tryz.prog 79 #[.slice a n c] w (DecA w (decR b).1 (decR b).2) := by
  have hrd := oread_any a n c b w hb hn
  obtain ⟨C, p0, e0, hC⟩ : ∃ C p0 e0, yuR b 0 0 = (C, p0, e0) := ⟨_, _, _, rfl⟩
  have hCf := yuR_fits b 0 0
  rw [hC] at hCf
  simp only at hCf
  have HC : Hid (yuR b 0 0 = (C, p0, e0)) := hC
  clear hb hC
  go_enter Tryz.func79, Tryz.ntmps79
  go_wp2_with fail
  refine hrd.mono ?_
  clear hrd
  rintro e w1 ⟨r, g, rfl, hr, hg, hR1, hG1⟩
  have hu := yuint_any w1 r g 0 0 b hR1
  rw [HC.out] at hu
  have HB1 : Hid (Below w.heap.size w w1 ∧ w.heap.size ≤ r ∧ w.heap.size ≤ g ∧ r < w1.heap.size) := ⟨⟨hG1.os, hG1.tape, hG1.output, hG1.size, fun k hk => hG1.block k hk (by simp)⟩, hr, hg, World.block_lt_of_cell? w1 _ hR1.c0⟩
  clear hR1 hG1 hr hg
  go_wp2_with fail
  refine hu.mono ?_
  clear hu
  rintro e w2 ⟨rfl, hR2, hG2⟩
  have H2 : Hid (Rd w2 r g p0 e0 b ∧ Below w.heap.size w w2 ∧ w1.heap.size ≤ w2.heap.size) := ⟨hR2, HB1.out.1.trans ⟨hG2.os, hG2.tape, hG2.output, hG2.size, fun k hk => hG2.block k (by have := HB1.out.1.size; omega) (fun e => by cases e; have := HB1.out.2.1; omega)⟩, hG2.size⟩
  clear hR2 hG2
  by_cases hbig : 4 < C
  · have i1 : (4 : Int) < (C : Int) := by omega
    have HZ : Hid (DecA w (decR b).1 (decR b).2 (.returned (.tuple #[.slice none 0 0, .bool false])) w2) := by
      have : decR b = ([], false) := by unfold decR; rw [HC.out]; simp only; rw [if_pos hbig]
      rw [this]
      exact dec_nil H2.out.2.1
    go_wp2
    go_ret2
    exact HZ.out
  · have i1 : ¬ (4 : Int) < (C : Int) := by omega
    obtain ⟨i0, hi, hz0, hz1, hz2⟩ := info_parts infoI
    go_wp2_with fail
    go_loopw [6, 15] (fun v i wr => ∃ (k : Nat) (la : Option Addr) (lc : Nat), k ≤ C ∧ i = .int .u64 (k : Int) ∧ v = .slice la k lc ∧ Hid (∃ acc p e, acc.length = k ∧ wr.ownsRow w2.heap.size 3 1 (.slice la k lc) k (acc.map nV) ∧ Rd wr r g p e b ∧ Turn (fun i => i = r) w2 wr ∧ decL b C [] p0 e0 = decL b (C - k) acc p e)) (fun _ i _ => C - (intOf i).toNat)
    case atStart => exact ⟨0, none, 0, Nat.zero_le _, rfl, rfl, [], p0, e0, rfl, World.ownsRow_nil _ _ _ _, H2.out.1, Turn.refl _ _, rfl⟩
    case round =>
      obtain ⟨k, la, lc, hk, rfl, rfl, H0⟩ := hrel
      obtain ⟨acc, p, e, hacc, hown, hRd, hT, hdec⟩ := H0.out
      clear H0
      by_cases hlt : k < C
      · have j1 : (k : Int) < (C : Int) := by omega
        have hu := yuint_any wr r g p e b hRd
        obtain ⟨x, p', e', hx⟩ : ∃ x p' e', yuR b p e = (x, p', e') := ⟨_, _, _, rfl⟩
        have hxf := yuR_fits b p e
        rw [hx] at hu hxf
        simp only at hu hxf
        have hstep : decL b (C - k) acc p e = if x = 0 ∨ 2147483648 < x ∨ x ∈ acc then none else decL b (C - (k + 1)) (acc ++ [x]) p' e' := by
          rw [show C - k = (C - (k + 1)) + 1 from by omega, decL, hx]
        have HH : Hid (acc.length = k ∧ wr.ownsRow w2.heap.size 3 1 (.slice la k lc) k (acc.map nV) ∧ Turn (fun i => i = r) w2 wr ∧ decL b C [] p0 e0 = if x = 0 ∨ 2147483648 < x ∨ x ∈ acc then none else decL b (C - (k + 1)) (acc ++ [x]) p' e') := ⟨hacc, hown, hT, hdec.trans hstep⟩
        clear hacc hown hT hdec hstep hx hRd
        go_wp2_with fail
        refine hu.mono ?_
        clear hu
        rintro e2 w3 ⟨rfl, hR3, hG3⟩
        have H3 : Hid (Rd w3 r g p' e' b ∧ Turn (fun i => i = r) w2 w3 ∧ w3.ownsRow w2.heap.size 3 1 (.slice la k lc) k (acc.map nV)) := by
          have hT3 : Turn (fun i => i = r) wr w3 := Turn.of_grownBy hG3 (fun k e => by cases e; exact .inl rfl)
          refine ⟨hR3, HH.out.2.2.1.trans hT3 (fun _ _ e => e), yrow_move HH.out.2.1 (fun q hq => ?_)⟩
          have hq := nrow_block HH.out.2.1 q hq
          exact hT3.block q hq.2.1 (fun e => by subst e; have := HB1.out.2.2.2; have := H2.out.2.2; omega)
        clear hR3 hG3
        have hbad : (x = 0 ∨ 2147483648 < x ∨ x ∈ acc) → DecA w (decR b).1 (decR b).2 (.returned (.tuple #[.slice none 0 0, .bool false])) w3 := fun hb => by
          have : decR b = ([], false) := by
            unfold decR
            rw [HC.out]
            simp only
            rw [if_neg hbig, HH.out.2.2.2, if_pos hb]
          rw [this]
          exact dec_nil (H2.out.2.1.trans (H3.out.2.1.below H2.out.2.1.size (fun k e => by subst e; exact HB1.out.2.1)))
        by_cases h0 : x = 0
        · have j2 : ((x : Int) == 0) = true := by simp [h0]
          have HZ : Hid _ := hbad (.inl h0)
          clear hbad
          go_wp2
          go_ret2
          exact HZ.out
        · have j2 : ((x : Int) == 0) = false := by simpa using h0
          by_cases h1 : 2147483648 < x
          · have j3 : (2147483648 : Int) < (x : Int) := by omega
            have HZ : Hid _ := hbad (.inr (.inl h1))
            clear hbad
            go_wp2
            go_ret2
            exact HZ.out
          · have j3 : ¬ (2147483648 : Int) < (x : Int) := by omega
            have hct := contains_any w3 la k lc acc (nrow_ns H3.out.2.2) x (by omega)
            by_cases hin : x ∈ acc
            · rw [decide_eq_true hin] at hct
              have HZ : Hid _ := hbad (.inr (.inr hin))
              clear hbad
              go_wp2_with fail
              refine hct.mono ?_
              clear hct
              rintro e4 w4 ⟨rfl, hw4⟩
              subst hw4
              go_wp2
              go_ret2
              exact HZ.out
            · rw [decide_eq_false hin] at hct
              clear hbad
              have HD : Hid (decL b C [] p0 e0 = decL b (C - (k + 1)) (acc ++ [x]) p' e') := by
                show _ = _
                rw [HH.out.2.2.2, if_neg (by rintro (h | h | h); exact h0 h; exact h1 h; exact hin h)]
              have hrow' := irow_al H3.out.2.2 (.cells #[nV x] 3)
              have hsz := H3.out.2.1.size
              go_wp2_with first
                | (at_builtin; refine wpList_append_own_at _ rfl _ _ 73 rfl w2.heap.size 3 i0 _ 1 8 Tryz.underlying73 hi hz0 hz1 hz2 rfl (by decide) _ k _ rfl hrow' ⟨_, 0, none⟩ 1 1 [nV x] rfl (by exact rfl) (by simpa using cell_one_newI _ x) (by simp [Value.oneCell']) (by unfold maxLen; omega) (by omega) (by simp; omega) ?_; intro v6 w6 hown6 hgr6 _ _)
                | (go_at_call 86; refine hct.mono ?_; clear hct; rintro e4 w4 ⟨rfl, hw4⟩; subst hw4)
              obtain ⟨la6, lc6, rfl, _⟩ := nrow_shape hown6
              have hT6 : Turn (fun i => i = r) w2 w6 := (H3.out.2.1.trans (Turn.of_below (fun _ => False) ((Below.refl _ _).alloc (Nat.le_refl _) _)) (fun _ _ e => e.elim)).trans (Turn.of_grownBy (Fp := fun q => w2.heap.size ≤ q) hgr6 (fun q hq => .inl (nrow_block hrow' q hq).1)) (fun q hq hx => by omega)
              have HZ : Hid (∃ acc' p e, acc'.length = k + 1 ∧ w6.ownsRow w2.heap.size 3 1 (.slice la6 (k + 1) lc6) (k + 1) (acc'.map nV) ∧ Rd w6 r g p e b ∧ Turn (fun i => i = r) w2 w6 ∧ decL b C [] p0 e0 = decL b (C - (k + 1)) acc' p e) :=
                ⟨acc ++ [x], p', e', by rw [List.length_append, HH.out.1]; rfl, by rw [List.map_append]; exact hown6, by
                  have hT36 := (Turn.of_below (fun q => w2.heap.size ≤ q) ((Below.refl _ _).alloc (Nat.le_refl _) _)).trans (Turn.of_grownBy (Fp := fun q => w2.heap.size ≤ q) hgr6 (fun q hq => .inl (nrow_block hrow' q hq).1)) (fun q hq hx => hx)
                  exact H3.out.1.turnB hT36 (by have := HB1.out.2.2.2; have := H2.out.2.2; omega) (fun hl => by have : g < w2.heap.size := World.block_lt_of_cell? w2 _ (H2.out.1.row 0 hl); omega), hT6, HD.out⟩
              clear hown6 hgr6 hT6 HD hrow' HH H3
              go_roundw
              case rel => exact ⟨k + 1, la6, lc6, by omega, by go_num, rfl, HZ.out⟩
              case measure => simp [intOf]; omega
      · obtain rfl : k = C := by omega
        have j1 : ¬ (k : Int) < (k : Int) := by omega
        have hE := yend_any wr r g p e b hRd
        have HH : Hid (acc.length = k ∧ wr.ownsRow w2.heap.size 3 1 (.slice la k lc) k (acc.map nV) ∧ Turn (fun i => i = r) w2 wr ∧ decL b k [] p0 e0 = some (acc, p, e)) := ⟨hacc, hown, hT, by
          rw [hdec, Nat.sub_self]; rfl⟩
        clear hacc hown hT hdec hRd
        go_wp2_with fail
        refine hE.mono ?_
        clear hE
        rintro e4 w4 ⟨z, rfl, hz, hB4⟩
        have hBw : Below w.heap.size w w4 := (H2.out.2.1.trans (HH.out.2.2.1.below H2.out.2.1.size (fun k e => by subst e; exact HB1.out.2.1))).trans (hB4.mono (Nat.le_trans H2.out.2.1.size HH.out.2.2.1.size))
        by_cases hz0 : z = 0
        · have j2 : (z != 0) = false := by simp [hz0]
          have HZ : Hid (DecA w (decR b).1 (decR b).2 (.returned (.tuple #[.slice la k lc, .bool true])) w4) := by
            have hd : decR b = (acc, true) := by
              unfold decR
              rw [HC.out]
              simp only
              rw [if_neg hbig, HH.out.2.2.2]
              simp only
              rw [if_pos (hz.1 hz0)]
            rw [hd]
            have hl := HH.out.1
            subst hl
            have h2 : w4.ownsRow w2.heap.size 3 1 (.slice la acc.length lc) acc.length (acc.map nV) := yrow_move HH.out.2.1 (fun q hq => hB4.block q (nrow_block HH.out.2.1 q hq).2.1)
            exact ⟨la, lc, rfl, ⟨h2.1, h2.2.imp id fun ⟨z, cap, cur, a1, a2, a3⟩ => ⟨z, cap, cur, a1, Nat.le_trans H2.out.2.1.size a2, a3⟩⟩, hBw⟩
          clear hz hBw hB4 hz0
          go_wp2
          go_ret2
          exact HZ.out
        · have j2 : (z != 0) = true := by simp [hz0]
          have HZ : Hid (DecA w (decR b).1 (decR b).2 (.returned (.tuple #[.slice none 0 0, .bool false])) w4) := by
            have hd : decR b = ([], false) := by
              unfold decR
              rw [HC.out]
              simp only
              rw [if_neg hbig, HH.out.2.2.2]
              simp only
              rw [if_neg (fun h => hz0 (hz.2 h))]
            rw [hd]
            exact dec_nil hBw
          clear hz hBw hB4 hz0
          go_wp2
          go_ret2
          exact HZ.out
end Go.Proofs.YtdjodigimhgklaaGreatDoor
