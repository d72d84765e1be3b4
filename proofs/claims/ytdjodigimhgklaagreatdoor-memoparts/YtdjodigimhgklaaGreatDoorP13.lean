import Derived.Test.YtdjodigimhgklaaGreatDoorP11
import Derived.Test.YtdjodigimhgklaaGreatDoorP05
import Derived.Test.YtdjodigimhgklaaGreatDoorP01
import Derived.Test.YtdjodigimhgklaaGreatDoorP12
import Derived.Test.YtdjodigimhgklaaGreatDoorP04
/- The walks of a Reader's Word, Raw and Text. -/
namespace Go.Proofs.YtdjodigimhgklaaGreatDoor
open Go.RowKit

set_option maxHeartbeats 400000 in
theorem wideForm_any (a : Option Addr) (n cap : Nat) (l : List UInt8) (w : World) (hb : Bytes w a n l) (hm : n ≤ 8) :
    Calls Tryz.prog 155 #[.slice a n cap] w fun e w' => e = .returned (.int .u64 (wideVal l n)) ∧ w' = w := by
  obtain ⟨hl, hc⟩ := hb
  go_enter Tryz.func155, Tryz.ntmps155
  go_wp2
  go_loop [3, 8] (fun h i => ∃ k : Nat, k ≤ n ∧ i = .int .i64 k ∧ h = .int .u64 (wideVal l k)) (fun _ i => n - (intOf i).toNat)
  case atStart => exact ⟨0, Nat.zero_le _, rfl, rfl⟩
  case round =>
    obtain ⟨k, hk, rfl, rfl⟩ := hrel
    by_cases hlt : k < n
    · obtain ⟨b, off, rfl, hcell⟩ := hc (by omega)
      have hck := hcell k hlt
      have b0 := bt_lo l k
      have b1 := bt_hi l k
      have h0 := wideVal_lo l k
      have h1 := wideVal_7 l k (by omega)
      have HS : Hid (bits BinOp.or IntKind.u64 (wideVal l k * 256) (bt l k) = wideVal l (k + 1)) := by rw [shl8 _ _ h0 h1 b0 b1]; rfl
      clear hcell hc
      go_wp2
      go_round
      case rel => exact ⟨k + 1, by omega, by go_num, by rw [HS.out]⟩
      case measure => simp [intOf]; omega
    · go_wp2
      go_ret
      obtain rfl : k = n := by omega
      exact ⟨rfl, rfl⟩

theorem word_stuck (w : World) (r g p : Nat) (x : Int) (l : List UInt8) (h : Rd w r g p x l) (hx : (x != 0) = true) :
    Calls Tryz.prog 116 #[.pointer (some ⟨r, 0, none⟩)] w fun e w' => e = .returned (.int .u64 0) ∧ w' = w := by
  go_enter Tryz.func116, Tryz.ntmps116
  go_wp2_with fail
  refine (take_stuck _ r g p x _ l h hx).mono ?_
  rintro e w1 ⟨rfl, rfl⟩
  go_wp2
  go_ret
  exact ⟨rfl, rfl⟩

theorem word_short (w : World) (r g p m : Nat) (l : List UInt8) (h : Rd w r g p 0 l) (hm : l.length = p + m) (h8 : m < 8) :
    Calls Tryz.prog 116 #[.pointer (some ⟨r, 0, none⟩)] w fun e w' => e = .returned (.int .u64 0) ∧ Rd w' r g p 110 l ∧ w.grownBy w' (some r) := by
  have Hm : Hid (l.length = p + m) := hm
  clear hm
  go_enter Tryz.func116, Tryz.ntmps116
  go_wp2_with fail
  refine (take_short _ r g p m _ l h Hm.out (by omega)).mono ?_
  rintro e w1 ⟨rfl, hr, hg⟩
  go_wp2
  go_ret
  exact ⟨rfl, hr, hg⟩

theorem word_yes (w : World) (r g p m : Nat) (l : List UInt8) (h : Rd w r g p 0 l) (hm : l.length = p + m) (h8 : ¬ m < 8) :
    Calls Tryz.prog 116 #[.pointer (some ⟨r, 0, none⟩)] w fun e w' => e = .returned (.int .u64 (wideVal ((l.drop p).take 8) 8)) ∧ Rd w' r g (p + 8) 0 l ∧ w.grownBy w' (some r) := by
  have Hm : Hid (l.length = p + m) := hm
  clear hm
  go_enter Tryz.func116, Tryz.ntmps116
  go_wp2_with fail
  refine (take_yes _ r g p m 8 l h Hm.out (by omega)).mono ?_
  rintro e w1 ⟨a, c, rfl, hb, hr, hg⟩
  go_wp2_with fail
  refine (wideForm_any a 8 c _ _ hb (by omega)).mono ?_
  rintro e w2 ⟨rfl, rfl⟩
  go_wp2
  go_ret
  exact ⟨rfl, hr, hg⟩

end Go.Proofs.YtdjodigimhgklaaGreatDoor

/- A record's bytes, and the walk of the function that makes them. -/
namespace Go.Proofs.YtdjodigimhgklaaGreatDoor
open Go.RowKit

/-- the hash of bytes, as a number -/
def hashN (l : List UInt8) : Nat := (hashTo l l.length).toNat
theorem hashN_eq (l : List UInt8) : ((hashN l : Nat) : Int) = hashTo l l.length := by
  have := hashTo_lo l l.length
  unfold hashN; omega
theorem hashN_lt (l : List UInt8) : hashN l < 18446744073709551616 := by
  have := hashTo_hi l l.length
  have := hashTo_lo l l.length
  unfold hashN; omega
/-- a record's bytes -/
def recB (l : List UInt8) : List UInt8 := short l.length ++ (l ++ wide (hashN l))
theorem wide_len (x : Nat) : (wide x).length = 8 := wideTo_len x 8
theorem recB_len (l : List UInt8) : (recB l).length = (short l.length).length + l.length + 8 := by
  unfold recB; rw [List.length_append, List.length_append, wide_len]; omega
theorem recB_pos (l : List UInt8) : 9 + l.length ≤ (recB l).length ∧ (recB l).length ≤ l.length + 18 := by
  have h1 := shortF_pos 9 l.length
  have h2 := short_len l.length
  rw [recB_len]
  unfold short at *
  omega

theorem ownsRow_up {w : World} {B B' n : Nat} {v : Value} {xs : List Value} (h : w.ownsRow B' 5 1 v n xs) (hB : B ≤ B') : w.ownsRow B 5 1 v n xs := by
  refine ⟨h.1, ?_⟩
  rcases h.2 with h0 | ⟨g, cap, cur, rfl, h1, h2⟩
  · exact .inl h0
  · exact .inr ⟨g, cap, cur, rfl, by omega, h2⟩

theorem hash_nat (a : Option Addr) (n c : Nat) (l : List UInt8) (w : World) (hb : Bytes w a n l) (hm : n ≤ maxLen) :
    Calls Tryz.prog 112 #[.slice a n c] w fun e w' => e = .returned (.int .u64 (hashN l)) ∧ w' = w := by
  rw [hashN_eq, hb.1]
  exact hash_any a n c l w hb hm

set_option maxHeartbeats 1000000 in
theorem form_any (a : Option Addr) (n c : Nat) (l : List UInt8) (w : World) (hb : Bytes w a n l) (hn : n ≤ 140737488355328) :
    Calls Tryz.prog 131 #[.slice a n c] w fun e w' => ∃ g c', e = .returned (.slice (some ⟨g, 0, none⟩) (recB l).length c') ∧
      w'.ownsRow w.heap.size 5 1 (.slice (some ⟨g, 0, none⟩) (recB l).length c') (recB l).length (cellsOf (recB l)) ∧ Below w.heap.size w w' := by
  have hrs := run_string w a n c l hb
  have hnilB : Bytes w none 0 [] := ⟨rfl, fun h => absurd h (by omega)⟩
  have hx1 : Calls Tryz.prog 167 #[.slice none 0 0, .string ⟨l.toArray⟩] w fun e w' => ∃ g m c, Hid (m + 8 = (recB l).length ∧ m ≤ 281474976710640) ∧ e = .returned (.slice (some ⟨g, 0, none⟩) m c) ∧
      w'.ownsRow w.heap.size 5 1 (.slice (some ⟨g, 0, none⟩) m c) m (cellsOf (short l.length ++ l)) ∧ w.grownBy w' none := by
    have hs := short_len l.length
    have hl := hb.1
    refine (putText_any none 0 0 ⟨l.toArray⟩ [] w hnilB (by show 0 + l.length ≤ _; omega)).mono ?_
    rintro e w' ⟨g, m, c1, hm, he, hown, hg⟩
    have hm' : m = 0 + (short l.length).length + l.length := hm
    exact ⟨g, m, c1, ⟨by rw [recB_len]; omega, by omega⟩, he, hown, hg⟩
  go_enter Tryz.func131, Tryz.ntmps131
  go_wp2_with fail
  refine hx1.mono ?_
  rintro e w1 ⟨g, m, c1, hm, rfl, hown1, hg1⟩
  have hB1 : Below w.heap.size w w1 := (Below.refl _ _).grown hg1 (Nat.le_refl _) (by simp)
  have hb1 : Bytes w1 a n l := hb.kept hg1 (by simp)
  have hbm := (ownsRow_bytes hown1).1
  clear hb hrs hx1 hown1 hg1
  go_wp2_with fail
  refine (hash_nat a n c l w1 hb1 (by unfold maxLen; omega)).mono ?_
  rintro e w2 ⟨rfl, rfl⟩
  clear hb1
  go_wp2_with fail
  refine (putWord_any (some ⟨g, 0, none⟩) m c1 (hashN l) _ w2 hbm hm.out.2 (hashN_lt l)).mono ?_
  rintro e w3 ⟨g3, c3, rfl, hown3, hg3⟩
  clear hbm
  go_wp2
  go_ret
  have hE2 : (short l.length ++ l) ++ wide (hashN l) = recB l := by unfold recB; rw [List.append_assoc]
  rw [hE2, hm.out.1] at hown3
  exact ⟨g3, c3, by rw [hm.out.1]; rfl, ownsRow_up hown3 hB1.size, hB1.grown hg3 hB1.size (by simp)⟩

end Go.Proofs.YtdjodigimhgklaaGreatDoor

/- The walks of a Reader's Text. -/
namespace Go.Proofs.YtdjodigimhgklaaGreatDoor
open Go.RowKit

set_option maxHeartbeats 1000000 in
theorem textBounds_any (a : Option Addr) (n cap : Nat) (most : Int) (l : List UInt8) (w : World) (hb : Bytes w a n l) (hm : n ≤ maxLen) (hmost : most ≤ 9223372036854775807) :
    Calls Tryz.prog 152 #[.slice a n cap, .int .i64 most] w fun e w' => e = .returned (.tuple #[.int .i64 (txt l most).1, .int .i64 (txt l most).2.1, .int .i64 (txt l most).2.2]) ∧ w' = w := by
  have hmx := hm
  unfold maxLen at hmx
  have hl := hb.1
  by_cases h0 : most < 0
  · rw [txt_arg l most h0]
    go_enter Tryz.func152, Tryz.ntmps152
    go_wp2
    go_ret3
    exact ⟨rfl, rfl⟩
  · have hle := num_le l
    have hfit := num_fits l
    have hpos := num_pos l
    obtain ⟨x, k, er, hnum⟩ : ∃ x k er, num l = (x, k, er) := ⟨_, _, _, rfl⟩
    have T1 := txt_num l most h0
    have T2 := txt_long l most h0
    have T3 := txt_short l most h0
    have T4 := txt_ok l most h0
    rw [hnum] at hle hfit hpos T1 T2 T3 T4
    simp only at hle hfit hpos T1 T2 T3 T4
    rw [hl] at hle T3 T4
    have Hnum : Hid (num l = (x, k, er)) := hnum
    clear hnum
    by_cases her : er = 0
    · subst her
      by_cases hlong : most < x
      · rw [T2 rfl hlong]
        clear T1 T2 T3 T4 hl
        go_enter Tryz.func152, Tryz.ntmps152
        go_wp2_with fail
        refine (shortForm_any a n cap l _ hb hm).mono ?_
        rw [Hnum.out]
        rintro e w1 ⟨rfl, rfl⟩
        go_wp2
        go_ret3
        exact ⟨rfl, rfl⟩
      · by_cases hsh : ((n - k : Nat) : Int) < x
        · rw [T3 rfl hlong hsh]
          clear T1 T2 T3 T4 hl
          have hsub : (n : Int) - (k : Int) = ((n - k : Nat) : Int) := by omega
          go_enter Tryz.func152, Tryz.ntmps152
          go_wp2_with fail
          refine (shortForm_any a n cap l _ hb hm).mono ?_
          rw [Hnum.out]
          rintro e w1 ⟨rfl, rfl⟩
          go_wp2
          go_ret3
          exact ⟨rfl, rfl⟩
        · rw [T4 rfl hlong hsh]
          clear T1 T2 T3 T4 hl
          have hsub : (n : Int) - (k : Int) = ((n - k : Nat) : Int) := by omega
          obtain ⟨X, hX⟩ := Int.eq_ofNat_of_zero_le hfit.1
          subst hX
          go_enter Tryz.func152, Tryz.ntmps152
          go_wp2_with fail
          refine (shortForm_any a n cap l _ hb hm).mono ?_
          rw [Hnum.out]
          rintro e w1 ⟨rfl, rfl⟩
          go_wp2
          go_ret3
          exact ⟨by simp, rfl⟩
    · have hne : (er != 0) = true := by simpa using her
      rw [T1 her]
      clear T1 T2 T3 T4 hl
      go_enter Tryz.func152, Tryz.ntmps152
      go_wp2_with fail
      refine (shortForm_any a n cap l _ hb hm).mono ?_
      rw [Hnum.out]
      rintro e w1 ⟨rfl, rfl⟩
      go_wp2
      go_ret3
      exact ⟨rfl, rfl⟩

theorem text_stuck (w : World) (r g p : Nat) (x most : Int) (l : List UInt8) (h : Rd w r g p x l) (hx : (x != 0) = true) :
    Calls Tryz.prog 115 #[.pointer (some ⟨r, 0, none⟩), .int .i64 most] w fun e w' => e = .returned (.string ⟨#[]⟩) ∧ w' = w := by
  go_enter Tryz.func115, Tryz.ntmps115
  go_wp2_with fail
  refine (stuck_yes _ r x h.c1 hx).mono ?_
  rintro e w1 ⟨rfl, rfl⟩
  go_wp2
  go_ret
  exact ⟨rfl, rfl⟩

set_option maxHeartbeats 400000 in
theorem text_no (w : World) (r g p m : Nat) (most : Int) (l : List UInt8) (h : Rd w r g p 0 l) (hm : l.length = p + m) (hmost : most ≤ 9223372036854775807) (hn : ((txt (l.drop p) most).2.2 != 0) = true) :
    Calls Tryz.prog 115 #[.pointer (some ⟨r, 0, none⟩), .int .i64 most] w fun e w' => e = .returned (.string ⟨#[]⟩) ∧ Rd w' r g p (txt (l.drop p) most).2.2 l ∧ w.grownBy w' (some r) := by
  have hl := h.hl
  have Hm : Hid (l.length = p + m) := hm
  have hml : m ≤ maxLen := by omega
  obtain ⟨f, t, er, htx⟩ : ∃ f t er, txt (l.drop p) most = (f, t, er) := ⟨_, _, _, rfl⟩
  have Htx : Hid (txt (l.drop p) most = (f, t, er)) := htx
  rw [htx] at hn ⊢
  simp only at hn ⊢
  clear hm htx hl
  go_enter Tryz.func115, Tryz.ntmps115
  go_wp2_with fail
  refine (stuck_no _ r h.c1).mono ?_
  rintro e w1 ⟨rfl, rfl⟩
  go_wp2_with fail
  refine (rest_any _ r g p m 0 l h Hm.out).mono ?_
  rintro e w2 ⟨q, j, rfl, hb, rfl⟩
  go_wp2_with fail
  refine (textBounds_any _ m m most (l.drop p) _ (hb.drewN j) hml hmost).mono ?_
  rw [Htx.out]
  rintro e w3 ⟨rfl, rfl⟩
  go_wp2_with fail
  refine (settle_no _ r t _ _ (h.drewN j).c1 (h.drewN j).f1 hn).mono ?_
  rintro e w4 ⟨rfl, rfl⟩
  go_wp2
  go_ret
  exact ⟨rfl, (h.drewN j).setErr _, grownBy_trans (grownBy_drewN _ _ _) (grownBy_setCell _ _ _ _)⟩

theorem Bytes.sub {w : World} {g q m : Nat} {L : List UInt8} (h : Bytes w (some ⟨g, q, none⟩) m L) (f t : Nat) (hft : f ≤ t) (htm : t ≤ m) : Bytes w (some ⟨g, q + f, none⟩) (t - f) ((L.take t).drop f) := by
  have hl := h.1
  refine ⟨by simp; omega, fun h0 => ⟨g, q + f, rfl, fun i hi => ?_⟩⟩
  obtain ⟨b, off, hx, hc⟩ := h.2 (by omega)
  simp only [Option.some.injEq, Addr.mk.injEq, and_true] at hx
  obtain ⟨rfl, rfl⟩ := hx
  rw [bt_drop, bt_take _ _ _ (by omega), Nat.add_assoc]
  exact hc (f + i) (by omega)

set_option maxHeartbeats 400000 in
theorem text_yes (w : World) (r g p m : Nat) (most : Int) (l : List UInt8) (hR : Rd w r g p 0 l) (hm : l.length = p + m) (hmost : most ≤ 9223372036854775807) (hn : (txt (l.drop p) most).2.2 = 0) :
    Calls Tryz.prog 115 #[.pointer (some ⟨r, 0, none⟩), .int .i64 most] w fun e w' => e = .returned (.string ⟨(((l.drop p).take (txt (l.drop p) most).2.1).drop (txt (l.drop p) most).1).toArray⟩) ∧ Rd w' r g (p + (txt (l.drop p) most).2.1) 0 l ∧ w.grownBy w' (some r) := by
  have hl := hR.hl
  have Hm : Hid (l.length = p + m) := hm
  have hml : m ≤ maxLen := by omega
  have hmx : m ≤ 9223372036854775807 := by unfold maxLen at hml; omega
  have hpm : p + m ≤ 9223372036854775807 := by unfold maxLen at hl; omega
  have hbd := txt_bounds (l.drop p) most
  rw [List.length_drop] at hbd
  obtain ⟨f, t, er, htx⟩ : ∃ f t er, txt (l.drop p) most = (f, t, er) := ⟨_, _, _, rfl⟩
  have Htx : Hid (txt (l.drop p) most = (f, t, er)) := htx
  rw [htx] at hn hbd ⊢
  simp only at hn hbd ⊢
  subst hn
  have hft : f ≤ t := hbd.1
  have htm : t ≤ m := by omega
  have i0 : (0 : Int) ≤ (f : Int) := by omega
  have i1 : (f : Int) ≤ (t : Int) := by omega
  have i2 : (t : Int) ≤ (m : Int) := by omega
  clear hm htx hl hbd
  go_enter Tryz.func115, Tryz.ntmps115
  go_wp2_with fail
  refine (stuck_no _ r hR.c1).mono ?_
  rintro e w1 ⟨rfl, rfl⟩
  go_wp2_with fail
  refine (rest_any _ r g p m 0 l hR Hm.out).mono ?_
  rintro e w2 ⟨q, j, rfl, hb, rfl⟩
  go_wp2_with fail
  refine (textBounds_any _ m m most (l.drop p) _ (hb.drewN j) hml hmost).mono ?_
  rw [Htx.out]
  rintro e w3 ⟨rfl, rfl⟩
  go_wp2_with fail
  refine (settle_yes _ r p t (hR.drewN j).c0 (hR.drewN j).f0 (by omega) (by omega) (by omega)).mono ?_
  rintro e w4 ⟨rfl, rfl⟩
  have hbS : Bytes ((w1.drewN j).setCell ⟨r, 0, none⟩ (.int .i64 ((p : Int) + (t : Int)))) (some ⟨g, q, none⟩) m (l.drop p) := (hb.drewN j).kept (grownBy_setCell _ _ _ _) (by simp [hR.ne])
  have hfin : Rd ((w1.drewN j).setCell ⟨r, 0, none⟩ (.int .i64 ((p : Int) + (t : Int)))) r g (p + t) 0 l := (hR.drewN j).setAt (p + t) (by have := Hm.out; omega)
  clear hb
  by_cases hfm : m = f
  · have htf : t - f = 0 := by omega
    have HE : Hid (((l.drop p).take t).drop f = []) := by show _ = []; rw [List.drop_eq_nil_iff]; simp; omega
    have hstr := run_string ((w1.drewN j).setCell ⟨r, 0, none⟩ (.int .i64 ((p : Int) + (t : Int)))) (some ⟨g, q, none⟩) 0 0 [] ⟨rfl, fun h0 => by omega⟩
    go_wp2
    go_ret
    rw [HE.out]
    exact ⟨rfl, hfin, grownBy_trans (grownBy_drewN _ _ _) (grownBy_setCell _ _ _ _)⟩
  · have hstr := run_string ((w1.drewN j).setCell ⟨r, 0, none⟩ (.int .i64 ((p : Int) + (t : Int)))) (some ⟨g, q + f, none⟩) (t - f) (m - f) _ (hbS.sub f t hft htm)
    go_wp2
    go_ret
    exact ⟨rfl, hfin, grownBy_trans (grownBy_drewN _ _ _) (grownBy_setCell _ _ _ _)⟩

end Go.Proofs.YtdjodigimhgklaaGreatDoor

/- A region that draws its order, in a round of a range over a function, by the laws of GRegion. Of no program. -/
namespace Go.Proofs.YtdjodigimhgklaaGreatDoor
open Go.RowKit Go.Shelf
theorem region_G_round {n : Nat} {P : Program} {id : Nat} {l : List Oper} {Q : Exit → Act → World → Prop} {S : Array Bool → World → Prop} {a : Act} {w : World} {r : Nat} (hm : P.follows .mixedOrders = true) (hd : l.all noDefer = true) (hQ : ¬ LetsOut Q)
    (h : wpAnyG P .any l.toArray Q S l.toArray.size (Array.replicate l.toArray.size false) a w.drew) : (Code.region id l.toArray true).wpIn (Fence.wide.inRound r) n P Q a w := by
  refine wpIn_region_any hm (any_round r rfl (fun i o ho => ?_) _ _ _ _ (any_wide hQ _ _ _ _ (wpAny_of_G _ _ _ _ h)))
  rw [List.all_eq_true] at hd
  refine hd o ?_
  have : l[i]? = some o := by simpa using ho
  exact List.mem_of_getElem? this
end Go.Proofs.YtdjodigimhgklaaGreatDoor
