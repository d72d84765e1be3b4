import Derived.Test.YtdjodigimhgklaaGreatDoorMC12
import Derived.Test.YtdjodigimhgklaaGreatDoorMC04
import Derived.Test.YtdjodigimhgklaaGreatDoorMC03
import Derived.Test.YtdjodigimhgklaaGreatDoorMC05
import Derived.Lib.SlBytesConst
import Derived.Lib.SliceRun
import Derived.BigQuiet
import Derived.Deep.QuietTactic
/- The walks of a Reader's Text. -/
namespace Go.Proofs.YtdjodigimhgklaaGreatDoor
open Go.RowKit

set_option maxHeartbeats 1000000 in
theorem textBounds_any (a : Option Addr) (n cap : Nat) (most : Int) (l : List UInt8) (w : World) (hb : Bytes w a n l) (hm : n ≤ maxLen) (hmost : most ≤ 9223372036854775807) :
    Calls Tryz.prog 152 #[.slice a n cap, .int .i64 most] w fun e w' => e = .returned (.tuple #[.int .i64 (txt l most).1, .int .i64 (txt l most).2.1, .int .i64 (txt l most).2.2]) ∧ w' = w := by
  have hmx := hm
  unfold maxLen at hmx
  have hl := hb.1
  by_cases h0 : most < 0
  · rw [txt_arg l most h0]
    go_enter Tryz.func152, Tryz.ntmps152
    go_wp2
    go_ret3
    exact ⟨rfl, rfl⟩
  · have hle := num_le l
    have hfit := num_fits l
    have hpos := num_pos l
    obtain ⟨x, k, er, hnum⟩ : ∃ x k er, num l = (x, k, er) := ⟨_, _, _, rfl⟩
    have T1 := txt_num l most h0
    have T2 := txt_long l most h0
    have T3 := txt_short l most h0
    have T4 := txt_ok l most h0
    rw [hnum] at hle hfit hpos T1 T2 T3 T4
    simp only at hle hfit hpos T1 T2 T3 T4
    rw [hl] at hle T3 T4
    have Hnum : Hid (num l = (x, k, er)) := hnum
    clear hnum
    by_cases her : er = 0
    · subst her
      by_cases hlong : most < x
      · rw [T2 rfl hlong]
        clear T1 T2 T3 T4 hl
        go_enter Tryz.func152, Tryz.ntmps152
        go_wp2_with fail
        refine (shortForm_any a n cap l _ hb hm).mono ?_
        rw [Hnum.out]
        rintro e w1 ⟨rfl, rfl⟩
        go_wp2
        go_ret3
        exact ⟨rfl, rfl⟩
      · by_cases hsh : ((n - k : Nat) : Int) < x
        · rw [T3 rfl hlong hsh]
          clear T1 T2 T3 T4 hl
          have hsub : (n : Int) - (k : Int) = ((n - k : Nat) : Int) := by omega
          go_enter Tryz.func152, Tryz.ntmps152
          go_wp2_with fail
          refine (shortForm_any a n cap l _ hb hm).mono ?_
          rw [Hnum.out]
          rintro e w1 ⟨rfl, rfl⟩
          go_wp2
          go_ret3
          exact ⟨rfl, rfl⟩
        · rw [T4 rfl hlong hsh]
          clear T1 T2 T3 T4 hl
          have hsub : (n : Int) - (k : Int) = ((n - k : Nat) : Int) := by omega
          obtain ⟨X, hX⟩ := Int.eq_ofNat_of_zero_le hfit.1
          subst hX
          go_enter Tryz.func152, Tryz.ntmps152
          go_wp2_with fail
          refine (shortForm_any a n cap l _ hb hm).mono ?_
          rw [Hnum.out]
          rintro e w1 ⟨rfl, rfl⟩
          go_wp2
          go_ret3
          exact ⟨by simp, rfl⟩
    · have hne : (er != 0) = true := by simpa using her
      rw [T1 her]
      clear T1 T2 T3 T4 hl
      go_enter Tryz.func152, Tryz.ntmps152
      go_wp2_with fail
      refine (shortForm_any a n cap l _ hb hm).mono ?_
      rw [Hnum.out]
      rintro e w1 ⟨rfl, rfl⟩
      go_wp2
      go_ret3
      exact ⟨rfl, rfl⟩

theorem text_stuck (w : World) (r g p : Nat) (x most : Int) (l : List UInt8) (h : Rd w r g p x l) (hx : (x != 0) = true) :
    Calls Tryz.prog 115 #[.pointer (some ⟨r, 0, none⟩), .int .i64 most] w fun e w' => e = .returned (.string ⟨#[]⟩) ∧ w' = w := by
  go_enter Tryz.func115, Tryz.ntmps115
  go_wp2_with fail
  refine (stuck_yes _ r x h.c1 hx).mono ?_
  rintro e w1 ⟨rfl, rfl⟩
  go_wp2
  go_ret
  exact ⟨rfl, rfl⟩

set_option maxHeartbeats 400000 in
theorem text_no (w : World) (r g p m : Nat) (most : Int) (l : List UInt8) (h : Rd w r g p 0 l) (hm : l.length = p + m) (hmost : most ≤ 9223372036854775807) (hn : ((txt (l.drop p) most).2.2 != 0) = true) :
    Calls Tryz.prog 115 #[.pointer (some ⟨r, 0, none⟩), .int .i64 most] w fun e w' => e = .returned (.string ⟨#[]⟩) ∧ Rd w' r g p (txt (l.drop p) most).2.2 l ∧ w.grownBy w' (some r) := by
  have hl := h.hl
  have Hm : Hid (l.length = p + m) := hm
  have hml : m ≤ maxLen := by omega
  obtain ⟨f, t, er, htx⟩ : ∃ f t er, txt (l.drop p) most = (f, t, er) := ⟨_, _, _, rfl⟩
  have Htx : Hid (txt (l.drop p) most = (f, t, er)) := htx
  rw [htx] at hn ⊢
  simp only at hn ⊢
  clear hm htx hl
  go_enter Tryz.func115, Tryz.ntmps115
  go_wp2_with fail
  refine (stuck_no _ r h.c1).mono ?_
  rintro e w1 ⟨rfl, rfl⟩
  go_wp2_with fail
  refine (rest_any _ r g p m 0 l h Hm.out).mono ?_
  rintro e w2 ⟨q, j, rfl, hb, rfl⟩
  go_wp2_with fail
  refine (textBounds_any _ m m most (l.drop p) _ (hb.drewN j) hml hmost).mono ?_
  rw [Htx.out]
  rintro e w3 ⟨rfl, rfl⟩
  go_wp2_with fail
  refine (settle_no _ r t _ _ (h.drewN j).c1 (h.drewN j).f1 hn).mono ?_
  rintro e w4 ⟨rfl, rfl⟩
  go_wp2
  go_ret
  exact ⟨rfl, (h.drewN j).setErr _, grownBy_trans (grownBy_drewN _ _ _) (grownBy_setCell _ _ _ _)⟩

theorem Bytes.sub {w : World} {g q m : Nat} {L : List UInt8} (h : Bytes w (some ⟨g, q, none⟩) m L) (f t : Nat) (hft : f ≤ t) (htm : t ≤ m) : Bytes w (some ⟨g, q + f, none⟩) (t - f) ((L.take t).drop f) := by
  have hl := h.1
  refine ⟨by simp; omega, fun h0 => ⟨g, q + f, rfl, fun i hi => ?_⟩⟩
  obtain ⟨b, off, hx, hc⟩ := h.2 (by omega)
  simp only [Option.some.injEq, Addr.mk.injEq, and_true] at hx
  obtain ⟨rfl, rfl⟩ := hx
  rw [bt_drop, bt_take _ _ _ (by omega), Nat.add_assoc]
  exact hc (f + i) (by omega)

set_option maxHeartbeats 400000 in
theorem text_yes (w : World) (r g p m : Nat) (most : Int) (l : List UInt8) (hR : Rd w r g p 0 l) (hm : l.length = p + m) (hmost : most ≤ 9223372036854775807) (hn : (txt (l.drop p) most).2.2 = 0) :
    Calls Tryz.prog 115 #[.pointer (some ⟨r, 0, none⟩), .int .i64 most] w fun e w' => e = .returned (.string ⟨(((l.drop p).take (txt (l.drop p) most).2.1).drop (txt (l.drop p) most).1).toArray⟩) ∧ Rd w' r g (p + (txt (l.drop p) most).2.1) 0 l ∧ w.grownBy w' (some r) := by
  have hl := hR.hl
  have Hm : Hid (l.length = p + m) := hm
  have hml : m ≤ maxLen := by omega
  have hmx : m ≤ 9223372036854775807 := by unfold maxLen at hml; omega
  have hpm : p + m ≤ 9223372036854775807 := by unfold maxLen at hl; omega
  have hbd := txt_bounds (l.drop p) most
  rw [List.length_drop] at hbd
  obtain ⟨f, t, er, htx⟩ : ∃ f t er, txt (l.drop p) most = (f, t, er) := ⟨_, _, _, rfl⟩
  have Htx : Hid (txt (l.drop p) most = (f, t, er)) := htx
  rw [htx] at hn hbd ⊢
  simp only at hn hbd ⊢
  subst hn
  have hft : f ≤ t := hbd.1
  have htm : t ≤ m := by omega
  have i0 : (0 : Int) ≤ (f : Int) := by omega
  have i1 : (f : Int) ≤ (t : Int) := by omega
  have i2 : (t : Int) ≤ (m : Int) := by omega
  clear hm htx hl hbd
  go_enter Tryz.func115, Tryz.ntmps115
  go_wp2_with fail
  refine (stuck_no _ r hR.c1).mono ?_
  rintro e w1 ⟨rfl, rfl⟩
  go_wp2_with fail
  refine (rest_any _ r g p m 0 l hR Hm.out).mono ?_
  rintro e w2 ⟨q, j, rfl, hb, rfl⟩
  go_wp2_with fail
  refine (textBounds_any _ m m most (l.drop p) _ (hb.drewN j) hml hmost).mono ?_
  rw [Htx.out]
  rintro e w3 ⟨rfl, rfl⟩
  go_wp2_with fail
  refine (settle_yes _ r p t (hR.drewN j).c0 (hR.drewN j).f0 (by omega) (by omega) (by omega)).mono ?_
  rintro e w4 ⟨rfl, rfl⟩
  have hbS : Bytes ((w1.drewN j).setCell ⟨r, 0, none⟩ (.int .i64 ((p : Int) + (t : Int)))) (some ⟨g, q, none⟩) m (l.drop p) := (hb.drewN j).kept (grownBy_setCell _ _ _ _) (by simp [hR.ne])
  have hfin : Rd ((w1.drewN j).setCell ⟨r, 0, none⟩ (.int .i64 ((p : Int) + (t : Int)))) r g (p + t) 0 l := (hR.drewN j).setAt (p + t) (by have := Hm.out; omega)
  clear hb
  by_cases hfm : m = f
  · have htf : t - f = 0 := by omega
    have HE : Hid (((l.drop p).take t).drop f = []) := by show _ = []; rw [List.drop_eq_nil_iff]; simp; omega
    have hstr := run_string ((w1.drewN j).setCell ⟨r, 0, none⟩ (.int .i64 ((p : Int) + (t : Int)))) (some ⟨g, q, none⟩) 0 0 [] ⟨rfl, fun h0 => by omega⟩
    go_wp2
    go_ret
    rw [HE.out]
    exact ⟨rfl, hfin, grownBy_trans (grownBy_drewN _ _ _) (grownBy_setCell _ _ _ _)⟩
  · have hstr := run_string ((w1.drewN j).setCell ⟨r, 0, none⟩ (.int .i64 ((p : Int) + (t : Int)))) (some ⟨g, q + f, none⟩) (t - f) (m - f) _ (hbS.sub f t hft htm)
    go_wp2
    go_ret
    exact ⟨rfl, hfin, grownBy_trans (grownBy_drewN _ _ _) (grownBy_setCell _ _ _ _)⟩

end Go.Proofs.YtdjodigimhgklaaGreatDoor

/- A region that draws its order, in a round of a range over a function, by the laws of GRegion. Of no program. -/
namespace Go.Proofs.YtdjodigimhgklaaGreatDoor
open Go.RowKit Go.Shelf
theorem region_G_round {n : Nat} {P : Program} {id : Nat} {l : List Oper} {Q : Exit → Act → World → Prop} {S : Array Bool → World → Prop} {a : Act} {w : World} {r : Nat} (hm : P.follows .mixedOrders = true) (hd : l.all noDefer = true) (hQ : ¬ LetsOut Q)
    (h : wpAnyG P .any l.toArray Q S l.toArray.size (Array.replicate l.toArray.size false) a w.drew) : (Code.region id l.toArray true).wpIn (Fence.wide.inRound r) n P Q a w := by
  refine wpIn_region_any hm (any_round r rfl (fun i o ho => ?_) _ _ _ _ (any_wide hQ _ _ _ _ (wpAny_of_G _ _ _ _ h)))
  rw [List.all_eq_true] at hd
  refine hd o ?_
  have : l[i]? = some o := by simpa using ho
  exact List.mem_of_getElem? this
end Go.Proofs.YtdjodigimhgklaaGreatDoor

/- The walks of the disk's calls that read, and of Append. -/
namespace Go.Proofs.YtdjodigimhgklaaGreatDoor
open Go.RowKit Go.Maps

theorem ownsRow_shape {w : World} {B n : Nat} {v : Value} {xs : List Value} (h : w.ownsRow B 5 1 v n xs) : ∃ ad c, v = .slice ad n c ∧ n ≤ c ∧ (ad = none → n = 0 ∧ c = 0) := by
  rcases h.2 with ⟨rfl, rfl⟩ | ⟨g, cap, cur, rfl, _, _, hc, _⟩
  · exact ⟨none, 0, rfl, Nat.le_refl _, fun _ => ⟨rfl, rfl⟩⟩
  · exact ⟨_, _, rfl, hc, fun h => by cases h⟩

theorem ownsRow_toBytes {w : World} {B n c : Nat} {ad : Option Addr} {l : List UInt8} (h : w.ownsRow B 5 1 (.slice ad n c) n (cellsOf l)) : Bytes w ad n l ∧ ∀ x, ad = some x → B ≤ x.block ∧ x.block < w.heap.size := by
  have hll : l.length = n := by have := h.1; rw [cellsOf_length] at this; omega
  rcases h.2 with ⟨e, rfl⟩ | ⟨g, cap, cur, e, _⟩
  · cases e
    exact ⟨⟨hll, fun h0 => by omega⟩, by simp⟩
  · cases e
    refine ⟨⟨hll, fun _ => ⟨g, 0, rfl, fun i hi => ?_⟩⟩, fun x hx => ?_⟩
    · have := h.cells (g := g) rfl i _ (cellsOf_get l i (by omega))
      rw [Addr.add_lit] at this
      exact this
    · cases hx
      exact h.lt g rfl

theorem ownsRow_base {w : World} {B n : Nat} {v : Value} {xs : List Value} (h : w.ownsRow 0 5 1 v n xs) (hB : ∀ g, v.ownBlock = some g → B ≤ g) : w.ownsRow B 5 1 v n xs := by
  refine ⟨h.1, ?_⟩
  rcases h.2 with h0 | ⟨g, cap, cur, rfl, _, h2⟩
  · exact .inl h0
  · exact .inr ⟨g, cap, cur, rfl, hB g rfl, h2⟩

set_option maxHeartbeats 1000000 in
theorem clone_any (a : Option Addr) (n c : Nat) (l : List UInt8) (w : World) (hb : Bytes w a n l) (hnil : a = none → n = 0 ∧ c = 0) (hbig : n ≤ 140737488355328) :
    Calls Tryz.prog 54 #[.slice a n c] w fun e w' => ∃ a' c', e = .returned (.slice a' n c') ∧ w'.ownsRow w.heap.size 5 1 (.slice a' n c') n (cellsOf l) ∧ Below w.heap.size w w' ∧ n ≤ c' ∧ (a' = none → n = 0 ∧ c' = 0) := by
  have q22 : ∀ (w : World) (a : Option Addr) (n c n' c' : Nat), (binOp .eql 33 (.slice a n c) (.slice none n' c')).run Tryz.prog w = .ok (.bool a.isNone) w := fun w a n c n' c' => Lib.run_eql_slice_nil w _ _ a n c n' c' Tryz.underlying33
  cases a with
  | none =>
    obtain ⟨rfl, rfl⟩ := hnil rfl
    have hl : l = [] := List.eq_nil_of_length_eq_zero hb.1
    subst hl
    go_enter Tryz.func54, Tryz.ntmps54
    go_wp2
    go_ret
    exact ⟨none, 0, rfl, World.ownsRow_nil _ _ _ _, Below.refl _ _, by simp⟩
  | some a =>
    have hB0 : Below w.heap.size w (w.alloc (.cells #[] 5)) := (Below.refl _ _).alloc (Nat.le_refl _) _
    have hb0 : Bytes (w.alloc (.cells #[] 5)) (some a) n l := (Turn.of_below (fun _ => False) hB0).bytes hb (fun _ _ _ => id)
    have hr0 : (w.alloc (.cells #[] 5)).ownsRow 0 5 1 (.slice (some ⟨w.heap.size, 0, none⟩) 0 0) 0 [] := World.ownsRow_made w #[] 0 (Nat.zero_le _) (by unfold maxLen; omega) rfl
    go_enter Tryz.func54, Tryz.ntmps54
    go_wp2_with (at_builtin; refine wpList_append_row _ rfl _ _ rfl (.slice (some ⟨w.heap.size, 0, none⟩) 0 0) 0 [] rfl hr0 (some a) n c l rfl hb0 hnil (by omega) ?_; intro v' w1 hown hgrow hat; obtain ⟨a', c', rfl, hnc, hnn⟩ := ownsRow_shape hown)
    go_ret
    simp only [Nat.zero_add, List.nil_append] at *
    have hbase : ∀ g, (Value.slice a' n c').ownBlock = some g → w.heap.size ≤ g := by
      intro g hg
      rcases hat with e | e
      · rw [e] at hg; cases hg; exact Nat.le_refl _
      · rw [e] at hg; cases hg; simp
    exact ⟨a', c', rfl, ownsRow_base hown hbase, hB0.grown hgrow (by simp) (by intro k hk; cases hk; exact Nat.le_refl _), hnc, hnn⟩

/-- what the disk answers when it is asked for a file -/
def DG.err (S : DG) (l : List UInt8) : Int := if (S.f l).isSome then 0 else 4

theorem DiskAt.look {w : World} {p b : Nat} {M : DataW Value} {S : DG} {Fp : Nat → Prop} (hd : DiskAt w p b M S Fp) (s : ByteArray) (hs : s.size ≤ maxLen) (v : Value) (hv : M.atKey (.string s.data.toList) nils = .held v) :
    (Instr.lookup 83 (.map (some b)) (.string s) true).run Tryz.prog w = .ok (.tuple #[v, .bool (S.f s.data.toList).isSome]) w := by
  obtain ⟨u, ps, hrun, hu⟩ := hd.own.look_ok keyed Tryz.underlying83 (zeroSlice w) (show rv (.slice none 0 0) = some (nils, []) from rfl) (keyOfS s hs)
  rw [hv] at hu
  have := rv_inv hu
  cases this
  rw [hd.has] at hrun
  exact hrun

set_option maxHeartbeats 1000000 in
theorem file_any (p : Nat) (S : DG) (Fp : Nat → Prop) (w : World) (s : ByteArray) (hd : IsDisk w p S Fp) (hs : s.size ≤ maxLen) :
    Calls Tryz.prog 53 #[.pointer (some ⟨p, 0, none⟩), .string s] w fun e w' => ∃ a c, e = .returned (.tuple #[.slice a ((S.f s.data.toList).getD []).length c, .int .i64 (S.err s.data.toList)]) ∧ w' = w ∧
      Bytes w a ((S.f s.data.toList).getD []).length ((S.f s.data.toList).getD []) ∧ ((S.f s.data.toList).getD []).length ≤ c ∧ (a = none → ((S.f s.data.toList).getD []).length = 0 ∧ c = 0) ∧
      ∃ b M, DiskAt w p b M S Fp ∧ M.atKey (.string s.data.toList) nils = .held (.slice a ((S.f s.data.toList).getD []).length c) := by
  obtain ⟨b, M, hd⟩ := hd
  obtain ⟨v, hv, hrow, hvo⟩ := hd.value s.data.toList
  obtain ⟨a, c, rfl, hac, hnn⟩ := ownsRow_shape hrow
  have hlk := hd.look s hs _ hv
  have c0 := hd.c0
  have hby := (ownsRow_toBytes hrow).1
  have HD : Hid (DiskAt w p b M S Fp) := hd
  have HV : Hid (M.atKey (.string s.data.toList) nils = .held (.slice a ((S.f s.data.toList).getD []).length c)) := hv
  clear hd hv
  cases hf : S.f s.data.toList with
  | none =>
    rw [hf] at hlk hby hac hnn HV hrow
    simp only [Option.getD_none, List.length_nil] at hlk hby hac hnn HV hrow
    obtain ⟨rfl, rfl⟩ : a = none ∧ c = 0 := by
      rcases hrow.2 with ⟨e, _⟩ | ⟨g, cap, cur, e, _⟩
      · cases e; exact ⟨rfl, rfl⟩
      · cases e
        have := (hvo g rfl).2.2.2
        rw [hf] at this
        cases this
    go_enter Tryz.func53, Tryz.ntmps53
    go_wp2
    go_ret2
    exact ⟨none, 0, by simp [DG.err, hf], rfl, hby, by simp, b, M, HD.out, HV.out⟩
  | some bs =>
    rw [hf] at hlk hby hac hnn HV hrow
    simp only [Option.getD_some] at hlk hby hac hnn HV hrow
    go_enter Tryz.func53, Tryz.ntmps53
    go_wp2
    go_ret2
    exact ⟨a, c, by simp [DG.err, hf], rfl, hby, hac, hnn, b, M, HD.out, HV.out⟩

/-- what a file holds; nothing, where there is none -/
def DG.bs (S : DG) (l : List UInt8) : List UInt8 := (S.f l).getD []

set_option maxHeartbeats 1000000 in
theorem read_any (p : Nat) (S : DG) (Fp : Nat → Prop) (w : World) (s : ByteArray) (hd : IsDisk w p S Fp) (hs : s.size ≤ maxLen) (hbig : (S.bs s.data.toList).length ≤ 140737488355328) :
    Calls Tryz.prog 19 #[.pointer (some ⟨p, 0, none⟩), .string s] w fun e w' => ∃ a c, e = .returned (.tuple #[.slice a (S.bs s.data.toList).length c, .int .i64 (S.err s.data.toList)]) ∧
      w'.ownsRow w.heap.size 5 1 (.slice a (S.bs s.data.toList).length c) (S.bs s.data.toList).length (cellsOf (S.bs s.data.toList)) ∧ Below w.heap.size w w' ∧ (S.bs s.data.toList).length ≤ c ∧ (a = none → (S.bs s.data.toList).length = 0 ∧ c = 0) := by
  have hx := file_any p S Fp w s hd hs
  change Calls _ _ _ _ fun e w' => ∃ a c, e = .returned (.tuple #[.slice a (S.bs s.data.toList).length c, .int .i64 (S.err s.data.toList)]) ∧ w' = w ∧ Bytes w a (S.bs s.data.toList).length (S.bs s.data.toList) ∧ (S.bs s.data.toList).length ≤ c ∧ (a = none → (S.bs s.data.toList).length = 0 ∧ c = 0) ∧ _ at hx
  generalize S.bs s.data.toList = bs at *
  generalize S.err s.data.toList = er at *
  go_enter Tryz.func19, Tryz.ntmps19
  go_wp2_with fail
  refine hx.mono ?_
  rintro e w1 ⟨a, c, rfl, rfl, hb, hc, hn, _⟩
  go_wp2_with fail
  refine (clone_any a bs.length c bs _ hb hn hbig).mono ?_
  rintro e w2 ⟨a', c', rfl, hown, hB, hnc, hnn⟩
  go_wp2
  go_ret2
  exact ⟨a', c', rfl, hown, hB, hnc, hnn⟩

theorem writes_any (p : Nat) (S : DG) (Fp : Nat → Prop) (w : World) (hd : IsDisk w p S Fp) :
    Calls Tryz.prog 12 #[.pointer (some ⟨p, 0, none⟩)] w fun e w' => e = .returned (.int .i64 S.wr) ∧ w' = w := by
  obtain ⟨b, M, hd⟩ := hd
  have c1 := hd.c1
  clear hd
  go_enter Tryz.func12, Tryz.ntmps12
  go_wp2
  go_ret
  exact ⟨rfl, rfl⟩

set_option maxHeartbeats 1000000 in
/-- New: a disk without files -/
theorem new_any (w : World) : Calls Tryz.prog 9 #[] w fun e w' => e = .returned (.pointer (some ⟨w.heap.size + 1, 0, none⟩)) ∧ IsDisk w' (w.heap.size + 1) ⟨fun _ => none, 0, 0, false, 0⟩ (fun k => k = w.heap.size ∨ k = w.heap.size + 1) ∧ Below w.heap.size w w' := by
  have hmm := @run_makeMap Tryz.prog
  go_enter Tryz.func9, Tryz.ntmps9
  go_wp2
  go_ret
  refine ⟨rfl, ⟨w.heap.size, .map [], ?_⟩, ((Below.refl _ _).alloc (Nat.le_refl _) _).alloc (by simp) _⟩
  have hm := World.ownsMap_made w Tryz.prog 9 rv
  refine { c0 := by simp, c1 := by simp, c2 := by simp, c3 := by simp, f1 := by simp, f2 := by simp, f3 := by simp, hl := by simp, pb := by omega, own := hm.alloc _, sz := rfl, has := fun l => rfl, row := by simp, apart := by simp, fp := .inr rfl, fb := .inl rfl, lt := ?_ }
  rintro k (rfl | rfl) <;> simp
  omega

/-- what Append leaves, and what it answers -/
def DG.app (S : DG) (nm l : List UInt8) : DG × Int :=
  if nameB nm = false then (S, 2)
  else if l.length + (S.bs nm).length > 4194304 ∨ (S.f nm = none ∧ 256 ≤ S.n) then (S, 3)
  else if (S.f nm).isSome = true ∧ l = [] then (S, 0)
  else pieces (l.length + 1) S nm l

set_option maxRecDepth 20000 in
set_option maxHeartbeats 1000000 in
theorem append_any (p : Nat) (S : DG) (Fp : Nat → Prop) (w : World) (s : ByteArray) (a : Option Addr) (m c : Nat) (l : List UInt8) (hd : IsDisk w p S Fp) (hs : s.size ≤ maxLen)
    (hb : Bytes w a m l) (hmc : m ≤ c) (hnil : a = none → m = 0 ∧ c = 0) (ha : 0 < m → ∀ x, a = some x → ¬ Fp x.block ∧ x.block < w.heap.size) (hbs : (S.bs s.data.toList).length ≤ 4194304) (hn : S.n ≤ 256) (hw : S.wr < 4000000000000000000) (hm : m ≤ 9223372036854775807) :
    Calls Tryz.prog 20 #[.pointer (some ⟨p, 0, none⟩), .string s, .slice a m c] w fun e w' =>
      e = .returned (.int .i64 (S.app s.data.toList l).2) ∧ IsDisk w' p (S.app s.data.toList l).1 (grow Fp w w') ∧ Turn Fp w w' := by
  have hnm := name_any s w hs
  have hll := hb.1
  have HG : ∀ T : DG, IsDisk w p T Fp → IsDisk w p T (grow Fp w w) ∧ Turn Fp w w := fun T hT => ⟨grow_lt hT hd.lt (fun k hk => .inl hk) (Nat.le_refl _), Turn.refl _ _⟩
  cases hname : nameB s.data.toList with
  | false =>
    rw [hname] at hnm
    have e : S.app s.data.toList l = (S, 2) := by simp [DG.app, hname]
    rw [e]
    have hR := HG S hd
    clear HG hd
    go_enter Tryz.func20, Tryz.ntmps20
    go_wp2_with (go_at_call 55; refine hnm.mono ?_; rintro e w' ⟨rfl, rfl⟩)
    go_ret
    exact ⟨rfl, hR⟩
  | true =>
    rw [hname] at hnm
    obtain ⟨b, M, hD⟩ := hd
    obtain ⟨v, hv, hrow, hvo⟩ := hD.value s.data.toList
    obtain ⟨va, vc, rfl, hac, hnn⟩ := ownsRow_shape hrow
    have hlk := hD.look s hs _ hv
    have c0 := hD.c0
    have hsz := hD.own.len Tryz.underlying83 3
    rw [hD.sz] at hsz
    have hd : IsDisk w p S Fp := ⟨b, M, hD⟩
    have HL : Hid ((S.bs s.data.toList).length = ((S.f s.data.toList).getD []).length) := rfl
    have hpc := pieces_any p S Fp w s a m c l hd hb hmc hnil ha hs
    have hLL : ((S.f s.data.toList).getD []).length = (S.bs s.data.toList).length := rfl
    rw [hLL] at hlk hpc
    clear hv hrow hvo hac hnn hD
    generalize hL : (S.bs s.data.toList).length = L at *
    by_cases hlong : m + L > 4194304
    · have i1 : (4194304 : Int) - L < m := by omega
      have e : S.app s.data.toList l = (S, 3) := by
        unfold DG.app
        rw [if_neg (by simp [hname]), if_pos (.inl (by rw [hL]; omega))]
      rw [e]
      have hR := HG S hd
      clear HG hd hpc
      go_enter Tryz.func20, Tryz.ntmps20
      go_wp2_with (go_at_call 55; refine hnm.mono ?_; rintro e w' ⟨rfl, rfl⟩)
      go_ret
      exact ⟨rfl, hR⟩
    · have i1 : ¬ (4194304 : Int) - L < m := by omega
      have hi1 : (m : Int) ≤ 4194304 - L := by omega
      cases hf : S.f s.data.toList with
      | none =>
        rw [hf] at hlk
        simp only [Option.isSome_none] at hlk
        by_cases hfull : 256 ≤ S.n
        · have i2 : (256 : Int) ≤ (S.n : Int) := by omega
          have e : S.app s.data.toList l = (S, 3) := by
            unfold DG.app
            rw [if_neg (by simp [hname]), if_pos (.inr ⟨hf, hfull⟩)]
          rw [e]
          have hR := HG S hd
          clear HG hd hpc
          go_enter Tryz.func20, Tryz.ntmps20
          go_wp2_with (go_at_call 55; refine hnm.mono ?_; rintro e w' ⟨rfl, rfl⟩)
          go_ret
          exact ⟨rfl, hR⟩
        · have i2 : ¬ (256 : Int) ≤ (S.n : Int) := by omega
          have e : S.app s.data.toList l = pieces (m + 1) S s.data.toList l := by
            unfold DG.app
            rw [if_neg (by simp [hname]), if_neg (by rw [hL, hf]; simp; omega), if_neg (by simp [hf]), hll]
          rw [e]
          have hR := hpc (by omega) (by unfold maxLen; omega) (by omega)
          clear HG hd hpc
          go_enter Tryz.func20, Tryz.ntmps20
          go_wp2_with (first | (go_at_call 55; refine hnm.mono ?_; rintro e w' ⟨rfl, rfl⟩) | (go_at_call 56; refine hR.mono ?_; rintro e w' ⟨rfl, hR2⟩))
          go_ret
          exact ⟨rfl, hR2⟩
      | some bs =>
        rw [hf] at hlk
        simp only [Option.isSome_some] at hlk
        by_cases h0 : m = 0
        · have e : S.app s.data.toList l = (S, 0) := by
            unfold DG.app
            rw [if_neg (by simp [hname]), if_neg (by rw [hL, hf]; simp; omega), if_pos ⟨by simp [hf], List.eq_nil_of_length_eq_zero (by omega)⟩]
          rw [e]
          have hR := HG S hd
          subst h0
          clear HG hd hpc
          go_enter Tryz.func20, Tryz.ntmps20
          go_wp2_with (go_at_call 55; refine hnm.mono ?_; rintro e w' ⟨rfl, rfl⟩)
          go_ret
          exact ⟨rfl, hR⟩
        · have i2 : ¬ (m : Int) = 0 := by omega
          have e : S.app s.data.toList l = pieces (m + 1) S s.data.toList l := by
            unfold DG.app
            rw [if_neg (by simp [hname]), if_neg (by rw [hL, hf]; simp; omega), if_neg (by intro h; exact h0 (by rw [← hll, h.2]; rfl)), hll]
          rw [e]
          have hR := hpc (by omega) (by unfold maxLen; omega) (by omega)
          clear HG hd hpc
          go_enter Tryz.func20, Tryz.ntmps20
          go_wp2_with (first | (go_at_call 55; refine hnm.mono ?_; rintro e w' ⟨rfl, rfl⟩) | (go_at_call 56; refine hR.mono ?_; rintro e w' ⟨rfl, hR2⟩))
          go_ret
          exact ⟨rfl, hR2⟩

end Go.Proofs.YtdjodigimhgklaaGreatDoor
