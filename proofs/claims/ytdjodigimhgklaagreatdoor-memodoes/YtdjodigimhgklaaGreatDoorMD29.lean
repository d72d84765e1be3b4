import Derived.Test.YtdjodigimhgklaaGreatDoorMD28
import Derived.Test.YtdjodigimhgklaaGreatDoorMD15
import Derived.Test.YtdjodigimhgklaaGreatDoorMD06
import Derived.Test.YtdjodigimhgklaaGreatDoorMD03
import Derived.Test.YtdjodigimhgklaaGreatDoorMD13
/- The memo's decode: the numbers that a record says. -/
namespace Go.Proofs.YtdjodigimhgklaaGreatDoor
open Go.RowKit Go.Shelf Go.Maps

attribute [local go_sem] Oper.semAt_some

theorem Rd.turnB {w w' : World} {r g p : Nat} {e : Int} {l : List UInt8} {Fp : Nat → Prop} (h : Rd w r g p e l) (ht : Turn Fp w w') (h1 : ¬ Fp r) (h2 : 0 < l.length → ¬ Fp g) : Rd w' r g p e l where
  c0 := ht.cell h.c0 h1
  c1 := ht.cell h.c1 h1
  c2 := ht.cell h.c2 h1
  f0 := (ht.frozen (World.block_lt_of_cell? w _ h.c0) h1).trans h.f0
  f1 := (ht.frozen (World.block_lt_of_cell? w _ h.c1) h1).trans h.f1
  hp := h.hp
  hl := h.hl
  ne := h.ne
  row := fun i hi => ht.cell (h.row i hi) (h2 (by omega))
/-- a number read at p -/
def yuR (b : List UInt8) (p : Nat) (e : Int) : Nat × Nat × Int := if e ≠ 0 then (0, p, e) else if (num (b.drop p)).2.2 = 0 then ((num (b.drop p)).1.toNat, p + (num (b.drop p)).2.1, 0) else (0, p, (num (b.drop p)).2.2)
theorem yuR_fits (b : List UInt8) (p : Nat) (e : Int) : (yuR b p e).1 < 18446744073709551616 := by
  have := num_fits (b.drop p)
  unfold yuR
  split
  · simp
  · split
    · simp only; omega
    · simp
theorem yuint_any (w : World) (r g p : Nat) (e : Int) (b : List UInt8) (h : Rd w r g p e b) :
    Calls Tryz.prog 123 #[.pointer (some ⟨r, 0, none⟩)] w fun x w' => x = .returned (.int .u64 ((yuR b p e).1 : Int)) ∧ Rd w' r g (yuR b p e).2.1 (yuR b p e).2.2 b ∧ w.grownBy w' (some r) := by
  unfold yuR
  by_cases he : e = 0
  · subst he
    rw [if_neg (by simp)]
    by_cases hp : (num (b.drop p)).2.2 = 0
    · rw [if_pos hp]
      refine (uint_yes w r g p b h hp).mono fun x w' hx => ⟨?_, hx.2⟩
      rw [hx.1]
      have := num_fits (b.drop p)
      show Ending.returned (.int .u64 (num (b.drop p)).1) = Ending.returned (.int .u64 (((num (b.drop p)).1.toNat : Nat) : Int))
      rw [Int.toNat_of_nonneg this.1]
    · rw [if_neg hp]
      exact uint_no w r g p b h (by simp [hp])
  · rw [if_pos he]
    refine (uint_stuck w r g p e b h (by simp [he])).mono fun x w' hx => ⟨hx.1, ?_, ?_⟩
    · rw [hx.2]; exact h
    · rw [hx.2]; exact ⟨rfl, rfl, rfl, Nat.le_refl _, fun _ _ _ => rfl⟩
theorem yend_any (w : World) (r g p : Nat) (e : Int) (b : List UInt8) (h : Rd w r g p e b) :
    Calls Tryz.prog 124 #[.pointer (some ⟨r, 0, none⟩)] w fun x w' => ∃ z : Int, x = .returned (.int .i64 z) ∧ (z = 0 ↔ e = 0 ∧ p = b.length) ∧ Below w.heap.size w w' := by
  have hp := h.hp
  by_cases he : e = 0
  · subst he
    refine (end_ok w r g p (b.length - p) b h (by omega)).mono fun x w' hx => ?_
    obtain ⟨hx, k, rfl⟩ := hx
    refine ⟨_, hx, ?_, vbelow_drewN (Below.refl _ _) k⟩
    split
    · constructor
      · intro h; omega
      · intro h; omega
    · constructor
      · intro _; omega
      · intro _; rfl
  · refine (end_err w r e h.c1 (by simp [he])).mono fun x w' hx => ⟨e, hx.1, ?_, by rw [hx.2]; exact Below.refl _ _⟩
    constructor
    · intro h; exact absurd h he
    · intro h; exact h.1
/-- the numbers that follow; none: they are no record's -/
def decL (b : List UInt8) : Nat → List Nat → Nat → Int → Option (List Nat × Nat × Int)
  | 0, acc, p, e => some (acc, p, e)
  | k + 1, acc, p, e => if (yuR b p e).1 = 0 ∨ 2147483648 < (yuR b p e).1 ∨ (yuR b p e).1 ∈ acc then none else decL b k (acc ++ [(yuR b p e).1]) (yuR b p e).2.1 (yuR b p e).2.2
/-- what a record says, and whether it is one -/
def decR (b : List UInt8) : List Nat × Bool :=
  if 4 < (yuR b 0 0).1 then ([], false) else match decL b (yuR b 0 0).1 [] (yuR b 0 0).2.1 (yuR b 0 0).2.2 with
    | none => ([], false)
    | some (l, p, e) => if e = 0 ∧ p = b.length then (l, true) else ([], false)
/-- what decode answers -/
def DecA (w : World) (l : List Nat) (ok : Bool) (e : Ending) (w' : World) : Prop :=
  ∃ ad c, e = .returned (.tuple #[.slice ad l.length c, .bool ok]) ∧ w'.ownsRow w.heap.size 3 1 (.slice ad l.length c) l.length (l.map nV) ∧ Below w.heap.size w w'
theorem dec_nil {w w' : World} (hB : Below w.heap.size w w') : DecA w [] false (.returned (.tuple #[.slice none 0 0, .bool false])) w' := ⟨none, 0, rfl, World.ownsRow_nil _ _ _ _, hB⟩

set_option maxRecDepth 100000 in
set_option maxHeartbeats 4000000 in
theorem decode_anyY (w : World) (a : Option Addr) (n c : Nat) (b : List UInt8) (hb : Bytes w a n b) (hn : n ≤ 281474976710656) :
    Calls Tryz.prog 79 #[.slice a n c] w (DecA w (decR b).1 (decR b).2) := by
  have hrd := oread_any a n c b w hb hn
  obtain ⟨C, p0, e0, hC⟩ : ∃ C p0 e0, yuR b 0 0 = (C, p0, e0) := ⟨_, _, _, rfl⟩
  have hCf := yuR_fits b 0 0
  rw [hC] at hCf
  simp only at hCf
  have HC : Hid (yuR b 0 0 = (C, p0, e0)) := hC
  clear hb hC
  go_enter Tryz.func79, Tryz.ntmps79
  go_wp2_with fail
  refine hrd.mono ?_
  clear hrd
  rintro e w1 ⟨r, g, rfl, hr, hg, hR1, hG1⟩
  have hu := yuint_any w1 r g 0 0 b hR1
  rw [HC.out] at hu
  have HB1 : Hid (Below w.heap.size w w1 ∧ w.heap.size ≤ r ∧ w.heap.size ≤ g ∧ r < w1.heap.size) := ⟨⟨hG1.os, hG1.tape, hG1.output, hG1.size, fun k hk => hG1.block k hk (by simp)⟩, hr, hg, World.block_lt_of_cell? w1 _ hR1.c0⟩
  clear hR1 hG1 hr hg
  go_wp2_with fail
  refine hu.mono ?_
  clear hu
  rintro e w2 ⟨rfl, hR2, hG2⟩
  have H2 : Hid (Rd w2 r g p0 e0 b ∧ Below w.heap.size w w2 ∧ w1.heap.size ≤ w2.heap.size) := ⟨hR2, HB1.out.1.trans ⟨hG2.os, hG2.tape, hG2.output, hG2.size, fun k hk => hG2.block k (by have := HB1.out.1.size; omega) (fun e => by cases e; have := HB1.out.2.1; omega)⟩, hG2.size⟩
  clear hR2 hG2
  by_cases hbig : 4 < C
  · have i1 : (4 : Int) < (C : Int) := by omega
    have HZ : Hid (DecA w (decR b).1 (decR b).2 (.returned (.tuple #[.slice none 0 0, .bool false])) w2) := by
      have : decR b = ([], false) := by unfold decR; rw [HC.out]; simp only; rw [if_pos hbig]
      rw [this]
      exact dec_nil H2.out.2.1
    go_wp2
    go_ret2
    exact HZ.out
  · have i1 : ¬ (4 : Int) < (C : Int) := by omega
    obtain ⟨i0, hi, hz0, hz1, hz2⟩ := info_parts infoI
    go_wp2_with fail
    go_loopw [6, 15] (fun v i wr => ∃ (k : Nat) (la : Option Addr) (lc : Nat), k ≤ C ∧ i = .int .u64 (k : Int) ∧ v = .slice la k lc ∧ Hid (∃ acc p e, acc.length = k ∧ wr.ownsRow w2.heap.size 3 1 (.slice la k lc) k (acc.map nV) ∧ Rd wr r g p e b ∧ Turn (fun i => i = r) w2 wr ∧ decL b C [] p0 e0 = decL b (C - k) acc p e)) (fun _ i _ => C - (intOf i).toNat)
    case atStart => exact ⟨0, none, 0, Nat.zero_le _, rfl, rfl, [], p0, e0, rfl, World.ownsRow_nil _ _ _ _, H2.out.1, Turn.refl _ _, rfl⟩
    case round =>
      obtain ⟨k, la, lc, hk, rfl, rfl, H0⟩ := hrel
      obtain ⟨acc, p, e, hacc, hown, hRd, hT, hdec⟩ := H0.out
      clear H0
      by_cases hlt : k < C
      · have j1 : (k : Int) < (C : Int) := by omega
        have hu := yuint_any wr r g p e b hRd
        obtain ⟨x, p', e', hx⟩ : ∃ x p' e', yuR b p e = (x, p', e') := ⟨_, _, _, rfl⟩
        have hxf := yuR_fits b p e
        rw [hx] at hu hxf
        simp only at hu hxf
        have hstep : decL b (C - k) acc p e = if x = 0 ∨ 2147483648 < x ∨ x ∈ acc then none else decL b (C - (k + 1)) (acc ++ [x]) p' e' := by
          rw [show C - k = (C - (k + 1)) + 1 from by omega, decL, hx]
        have HH : Hid (acc.length = k ∧ wr.ownsRow w2.heap.size 3 1 (.slice la k lc) k (acc.map nV) ∧ Turn (fun i => i = r) w2 wr ∧ decL b C [] p0 e0 = if x = 0 ∨ 2147483648 < x ∨ x ∈ acc then none else decL b (C - (k + 1)) (acc ++ [x]) p' e') := ⟨hacc, hown, hT, hdec.trans hstep⟩
        clear hacc hown hT hdec hstep hx hRd
        go_wp2_with fail
        refine hu.mono ?_
        clear hu
        rintro e2 w3 ⟨rfl, hR3, hG3⟩
        have H3 : Hid (Rd w3 r g p' e' b ∧ Turn (fun i => i = r) w2 w3 ∧ w3.ownsRow w2.heap.size 3 1 (.slice la k lc) k (acc.map nV)) := by
          have hT3 : Turn (fun i => i = r) wr w3 := Turn.of_grownBy hG3 (fun k e => by cases e; exact .inl rfl)
          refine ⟨hR3, HH.out.2.2.1.trans hT3 (fun _ _ e => e), yrow_move HH.out.2.1 (fun q hq => ?_)⟩
          have hq := nrow_block HH.out.2.1 q hq
          exact hT3.block q hq.2.1 (fun e => by subst e; have := HB1.out.2.2.2; have := H2.out.2.2; omega)
        clear hR3 hG3
        have hbad : (x = 0 ∨ 2147483648 < x ∨ x ∈ acc) → DecA w (decR b).1 (decR b).2 (.returned (.tuple #[.slice none 0 0, .bool false])) w3 := fun hb => by
          have : decR b = ([], false) := by
            unfold decR
            rw [HC.out]
            simp only
            rw [if_neg hbig, HH.out.2.2.2, if_pos hb]
          rw [this]
          exact dec_nil (H2.out.2.1.trans (H3.out.2.1.below H2.out.2.1.size (fun k e => by subst e; exact HB1.out.2.1)))
        by_cases h0 : x = 0
        · have j2 : ((x : Int) == 0) = true := by simp [h0]
          have HZ : Hid _ := hbad (.inl h0)
          clear hbad
          go_wp2
          go_ret2
          exact HZ.out
        · have j2 : ((x : Int) == 0) = false := by simpa using h0
          by_cases h1 : 2147483648 < x
          · have j3 : (2147483648 : Int) < (x : Int) := by omega
            have HZ : Hid _ := hbad (.inr (.inl h1))
            clear hbad
            go_wp2
            go_ret2
            exact HZ.out
          · have j3 : ¬ (2147483648 : Int) < (x : Int) := by omega
            have hct := contains_any w3 la k lc acc (nrow_ns H3.out.2.2) x (by omega)
            by_cases hin : x ∈ acc
            · rw [decide_eq_true hin] at hct
              have HZ : Hid _ := hbad (.inr (.inr hin))
              clear hbad
              go_wp2_with fail
              refine hct.mono ?_
              clear hct
              rintro e4 w4 ⟨rfl, hw4⟩
              subst hw4
              go_wp2
              go_ret2
              exact HZ.out
            · rw [decide_eq_false hin] at hct
              clear hbad
              have HD : Hid (decL b C [] p0 e0 = decL b (C - (k + 1)) (acc ++ [x]) p' e') := by
                show _ = _
                rw [HH.out.2.2.2, if_neg (by rintro (h | h | h); exact h0 h; exact h1 h; exact hin h)]
              have hrow' := irow_al H3.out.2.2 (.cells #[nV x] 3)
              have hsz := H3.out.2.1.size
              go_wp2_with first
                | (at_builtin; refine wpList_append_own_at _ rfl _ _ 73 rfl w2.heap.size 3 i0 _ 1 8 Tryz.underlying73 hi hz0 hz1 hz2 rfl (by decide) _ k _ rfl hrow' ⟨_, 0, none⟩ 1 1 [nV x] rfl (by exact rfl) (by simpa using cell_one_newI _ x) (by simp [Value.oneCell']) (by unfold maxLen; omega) (by omega) (by simp; omega) ?_; intro v6 w6 hown6 hgr6 _ _)
                | (go_at_call 86; refine hct.mono ?_; clear hct; rintro e4 w4 ⟨rfl, hw4⟩; subst hw4)
              obtain ⟨la6, lc6, rfl, _⟩ := nrow_shape hown6
              have hT6 : Turn (fun i => i = r) w2 w6 := (H3.out.2.1.trans (Turn.of_below (fun _ => False) ((Below.refl _ _).alloc (Nat.le_refl _) _)) (fun _ _ e => e.elim)).trans (Turn.of_grownBy (Fp := fun q => w2.heap.size ≤ q) hgr6 (fun q hq => .inl (nrow_block hrow' q hq).1)) (fun q hq hx => by omega)
              have HZ : Hid (∃ acc' p e, acc'.length = k + 1 ∧ w6.ownsRow w2.heap.size 3 1 (.slice la6 (k + 1) lc6) (k + 1) (acc'.map nV) ∧ Rd w6 r g p e b ∧ Turn (fun i => i = r) w2 w6 ∧ decL b C [] p0 e0 = decL b (C - (k + 1)) acc' p e) :=
                ⟨acc ++ [x], p', e', by rw [List.length_append, HH.out.1]; rfl, by rw [List.map_append]; exact hown6, by
                  have hT36 := (Turn.of_below (fun q => w2.heap.size ≤ q) ((Below.refl _ _).alloc (Nat.le_refl _) _)).trans (Turn.of_grownBy (Fp := fun q => w2.heap.size ≤ q) hgr6 (fun q hq => .inl (nrow_block hrow' q hq).1)) (fun q hq hx => hx)
                  exact H3.out.1.turnB hT36 (by have := HB1.out.2.2.2; have := H2.out.2.2; omega) (fun hl => by have : g < w2.heap.size := World.block_lt_of_cell? w2 _ (H2.out.1.row 0 hl); omega), hT6, HD.out⟩
              clear hown6 hgr6 hT6 HD hrow' HH H3
              go_roundw
              case rel => exact ⟨k + 1, la6, lc6, by omega, by go_num, rfl, HZ.out⟩
              case measure => simp [intOf]; omega
      · obtain rfl : k = C := by omega
        have j1 : ¬ (k : Int) < (k : Int) := by omega
        have hE := yend_any wr r g p e b hRd
        have HH : Hid (acc.length = k ∧ wr.ownsRow w2.heap.size 3 1 (.slice la k lc) k (acc.map nV) ∧ Turn (fun i => i = r) w2 wr ∧ decL b k [] p0 e0 = some (acc, p, e)) := ⟨hacc, hown, hT, by
          rw [hdec, Nat.sub_self]; rfl⟩
        clear hacc hown hT hdec hRd
        go_wp2_with fail
        refine hE.mono ?_
        clear hE
        rintro e4 w4 ⟨z, rfl, hz, hB4⟩
        have hBw : Below w.heap.size w w4 := (H2.out.2.1.trans (HH.out.2.2.1.below H2.out.2.1.size (fun k e => by subst e; exact HB1.out.2.1))).trans (hB4.mono (Nat.le_trans H2.out.2.1.size HH.out.2.2.1.size))
        by_cases hz0 : z = 0
        · have j2 : (z != 0) = false := by simp [hz0]
          have HZ : Hid (DecA w (decR b).1 (decR b).2 (.returned (.tuple #[.slice la k lc, .bool true])) w4) := by
            have hd : decR b = (acc, true) := by
              unfold decR
              rw [HC.out]
              simp only
              rw [if_neg hbig, HH.out.2.2.2]
              simp only
              rw [if_pos (hz.1 hz0)]
            rw [hd]
            have hl := HH.out.1
            subst hl
            have h2 : w4.ownsRow w2.heap.size 3 1 (.slice la acc.length lc) acc.length (acc.map nV) := yrow_move HH.out.2.1 (fun q hq => hB4.block q (nrow_block HH.out.2.1 q hq).2.1)
            exact ⟨la, lc, rfl, ⟨h2.1, h2.2.imp id fun ⟨z, cap, cur, a1, a2, a3⟩ => ⟨z, cap, cur, a1, Nat.le_trans H2.out.2.1.size a2, a3⟩⟩, hBw⟩
          clear hz hBw hB4 hz0
          go_wp2
          go_ret2
          exact HZ.out
        · have j2 : (z != 0) = true := by simp [hz0]
          have HZ : Hid (DecA w (decR b).1 (decR b).2 (.returned (.tuple #[.slice none 0 0, .bool false])) w4) := by
            have hd : decR b = ([], false) := by
              unfold decR
              rw [HC.out]
              simp only
              rw [if_neg hbig, HH.out.2.2.2]
              simp only
              rw [if_neg (fun h => hz0 (hz.2 h))]
            rw [hd]
            exact dec_nil hBw
          clear hz hBw hB4 hz0
          go_wp2
          go_ret2
          exact HZ.out
end Go.Proofs.YtdjodigimhgklaaGreatDoor

/- The memo's Runs, a copy of the numbers. -/
namespace Go.Proofs.YtdjodigimhgklaaGreatDoor
open Go.RowKit Go.Shelf Go.Maps

attribute [local go_sem] Oper.semAt_some

theorem iclone_any (a : Option Addr) (n c : Nat) (l : List Nat) (w : World) (hb : NsV w a n l) (hnil : a = none → n = 0 ∧ c = 0) (hsp : ∀ x, a = some x → x.spot = none) (hbig : n ≤ 1000000) :
    Calls Tryz.prog 67 #[.slice a n c] w fun e w' => ∃ ad cp, e = .returned (.slice ad n cp) ∧ w'.ownsRow w.heap.size 3 1 (.slice ad n cp) n (l.map nV) ∧ Below w.heap.size w w' := by
  have q22 : ∀ (w : World) (a : Option Addr) (n c n' c' : Nat), (binOp .eql 73 (.slice a n c) (.slice none n' c')).run Tryz.prog w = .ok (.bool a.isNone) w := fun w a n c n' c' => Lib.run_eql_slice_nil w _ _ a n c n' c' Tryz.underlying73
  obtain ⟨i0, hi, hz0, hz1, hz2⟩ := info_parts infoI
  cases a with
  | none =>
    obtain ⟨rfl, rfl⟩ := hnil rfl
    have hl : l = [] := List.eq_nil_of_length_eq_zero hb.1
    subst hl
    clear hi hz0 hz1 hz2
    go_enter Tryz.func67, Tryz.ntmps67
    go_wp2
    go_ret
    exact ⟨none, 0, rfl, World.ownsRow_nil _ _ _ _, Below.refl _ _⟩
  | some ad =>
    by_cases h0 : 0 < n
    · obtain ⟨b, o, e, hc⟩ := hb.2 h0
      cases e
      refine (Tryz.slices_Clone i0 (.int .i64 0) 1 8 hi hz0 hz1 hz2 rfl (by decide) Tryz.sizeOf3 b o n c (l.map nV) w (by rw [List.length_map, hb.1]; omega) (by unfold maxLen; omega) (by omega) (fun j u hj => by
        rw [List.getElem?_map] at hj
        cases hlj : l[j]? with
        | none => rw [hlj] at hj; cases hj
        | some y => rw [hlj] at hj; cases hj; exact hc j y hlj) (fun u hu => by obtain ⟨y, _, rfl⟩ := List.mem_map.1 hu; rfl)).mono ?_
      rintro e w' ⟨v, rfl, hown, _, hB⟩
      obtain ⟨ad', c', rfl, _⟩ := nrow_shape hown
      exact ⟨ad', c', rfl, hown, hB⟩
    · have hn0 : n = 0 := by omega
      subst hn0
      have hl : l = [] := List.eq_nil_of_length_eq_zero hb.1
      subst hl
      obtain ⟨b, o, s⟩ := ad
      cases s with
      | none =>
        refine (Tryz.slices_Clone i0 (.int .i64 0) 1 8 hi hz0 hz1 hz2 rfl (by decide) Tryz.sizeOf3 b o 0 c [] w rfl (by decide) (by decide) (fun j u hj => by cases hj) (fun u hu => by cases hu)).mono ?_
        rintro e w' ⟨v, rfl, hown, _, hB⟩
        obtain ⟨ad', c', rfl, _⟩ := nrow_shape hown
        exact ⟨ad', c', rfl, hown, hB⟩
      | some sp => cases hsp _ rfl
theorem mruns_any (w : World) (m d j : Nat) (g : Me) (vr : Value) (pa : Option Addr) (pc : Nat) (F : Nat → Prop) (h : MeAt w m d j g vr pa pc F) (hn : g.runs.length ≤ 1000) :
    Calls Tryz.prog 31 #[.pointer (some ⟨m, 0, none⟩)] w fun e w' => ∃ ad c, e = .returned (.slice ad g.runs.length c) ∧ w'.ownsRow w.heap.size 3 1 (.slice ad g.runs.length c) g.runs.length (g.runs.map nV) ∧ Below w.heap.size w w' := by
  obtain ⟨_, _, _, c3, _⟩ := h.cells
  obtain ⟨ra, rc, rfl, hrc, hrn⟩ := nrow_shape h.row
  have hcl := iclone_any ra g.runs.length rc g.runs w (nrow_ns h.row) hrn (fun x e => by
    rcases h.row.2 with ⟨h1, _⟩ | ⟨z, _, _, h1, _⟩
    · rw [e] at h1; cases h1
    · rw [e] at h1; cases h1; rfl) (by omega)
  clear h
  generalize g.runs.length = N at *
  generalize g.runs = R at *
  go_enter Tryz.func31, Tryz.ntmps31
  go_wp2_with fail
  refine hcl.mono ?_
  clear hcl
  rintro e w1 ⟨ad, cp, rfl, hown, hB⟩
  have HZ : Hid (w1.ownsRow w.heap.size 3 1 (.slice ad N cp) N (R.map nV) ∧ Below w.heap.size w w1) := ⟨hown, hB⟩
  clear hown hB
  go_wp2
  go_ret
  exact ⟨ad, cp, rfl, HZ.out.1, HZ.out.2⟩
end Go.Proofs.YtdjodigimhgklaaGreatDoor
