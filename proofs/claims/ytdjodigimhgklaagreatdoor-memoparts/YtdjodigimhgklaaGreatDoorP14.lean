import Derived.Test.YtdjodigimhgklaaGreatDoorP03
import Derived.Test.YtdjodigimhgklaaGreatDoorP05
import Derived.Lib.SlBytesConst
import Derived.Lib.SliceRun
import Derived.BigQuiet
import Derived.Deep.QuietTactic
import Derived.Maps.RangeWalk
import Derived.Sort.KeysCollected
/- The walks of the disk's calls that read, and of Append. -/
namespace Go.Proofs.YtdjodigimhgklaaGreatDoor
open Go.RowKit Go.Maps

theorem ownsRow_shape {w : World} {B n : Nat} {v : Value} {xs : List Value} (h : w.ownsRow B 5 1 v n xs) : ∃ ad c, v = .slice ad n c ∧ n ≤ c ∧ (ad = none → n = 0 ∧ c = 0) := by
  rcases h.2 with ⟨rfl, rfl⟩ | ⟨g, cap, cur, rfl, _, _, hc, _⟩
  · exact ⟨none, 0, rfl, Nat.le_refl _, fun _ => ⟨rfl, rfl⟩⟩
  · exact ⟨_, _, rfl, hc, fun h => by cases h⟩

theorem ownsRow_toBytes {w : World} {B n c : Nat} {ad : Option Addr} {l : List UInt8} (h : w.ownsRow B 5 1 (.slice ad n c) n (cellsOf l)) : Bytes w ad n l ∧ ∀ x, ad = some x → B ≤ x.block ∧ x.block < w.heap.size := by
  have hll : l.length = n := by have := h.1; rw [cellsOf_length] at this; omega
  rcases h.2 with ⟨e, rfl⟩ | ⟨g, cap, cur, e, _⟩
  · cases e
    exact ⟨⟨hll, fun h0 => by omega⟩, by simp⟩
  · cases e
    refine ⟨⟨hll, fun _ => ⟨g, 0, rfl, fun i hi => ?_⟩⟩, fun x hx => ?_⟩
    · have := h.cells (g := g) rfl i _ (cellsOf_get l i (by omega))
      rw [Addr.add_lit] at this
      exact this
    · cases hx
      exact h.lt g rfl

theorem ownsRow_base {w : World} {B n : Nat} {v : Value} {xs : List Value} (h : w.ownsRow 0 5 1 v n xs) (hB : ∀ g, v.ownBlock = some g → B ≤ g) : w.ownsRow B 5 1 v n xs := by
  refine ⟨h.1, ?_⟩
  rcases h.2 with h0 | ⟨g, cap, cur, rfl, _, h2⟩
  · exact .inl h0
  · exact .inr ⟨g, cap, cur, rfl, hB g rfl, h2⟩

set_option maxHeartbeats 1000000 in
theorem clone_any (a : Option Addr) (n c : Nat) (l : List UInt8) (w : World) (hb : Bytes w a n l) (hnil : a = none → n = 0 ∧ c = 0) (hbig : n ≤ 140737488355328) :
    Calls Tryz.prog 54 #[.slice a n c] w fun e w' => ∃ a' c', e = .returned (.slice a' n c') ∧ w'.ownsRow w.heap.size 5 1 (.slice a' n c') n (cellsOf l) ∧ Below w.heap.size w w' ∧ n ≤ c' ∧ (a' = none → n = 0 ∧ c' = 0) := by
  have q22 : ∀ (w : World) (a : Option Addr) (n c n' c' : Nat), (binOp .eql 33 (.slice a n c) (.slice none n' c')).run Tryz.prog w = .ok (.bool a.isNone) w := fun w a n c n' c' => Lib.run_eql_slice_nil w _ _ a n c n' c' Tryz.underlying33
  cases a with
  | none =>
    obtain ⟨rfl, rfl⟩ := hnil rfl
    have hl : l = [] := List.eq_nil_of_length_eq_zero hb.1
    subst hl
    go_enter Tryz.func54, Tryz.ntmps54
    go_wp2
    go_ret
    exact ⟨none, 0, rfl, World.ownsRow_nil _ _ _ _, Below.refl _ _, by simp⟩
  | some a =>
    have hB0 : Below w.heap.size w (w.alloc (.cells #[] 5)) := (Below.refl _ _).alloc (Nat.le_refl _) _
    have hb0 : Bytes (w.alloc (.cells #[] 5)) (some a) n l := (Turn.of_below (fun _ => False) hB0).bytes hb (fun _ _ _ => id)
    have hr0 : (w.alloc (.cells #[] 5)).ownsRow 0 5 1 (.slice (some ⟨w.heap.size, 0, none⟩) 0 0) 0 [] := World.ownsRow_made w #[] 0 (Nat.zero_le _) (by unfold maxLen; omega) rfl
    go_enter Tryz.func54, Tryz.ntmps54
    go_wp2_with (at_builtin; refine wpList_append_row _ rfl _ _ rfl (.slice (some ⟨w.heap.size, 0, none⟩) 0 0) 0 [] rfl hr0 (some a) n c l rfl hb0 hnil (by omega) ?_; intro v' w1 hown hgrow hat; obtain ⟨a', c', rfl, hnc, hnn⟩ := ownsRow_shape hown)
    go_ret
    simp only [Nat.zero_add, List.nil_append] at *
    have hbase : ∀ g, (Value.slice a' n c').ownBlock = some g → w.heap.size ≤ g := by
      intro g hg
      rcases hat with e | e
      · rw [e] at hg; cases hg; exact Nat.le_refl _
      · rw [e] at hg; cases hg; simp
    exact ⟨a', c', rfl, ownsRow_base hown hbase, hB0.grown hgrow (by simp) (by intro k hk; cases hk; exact Nat.le_refl _), hnc, hnn⟩

/-- what the disk answers when it is asked for a file -/
def DG.err (S : DG) (l : List UInt8) : Int := if (S.f l).isSome then 0 else 4

theorem DiskAt.look {w : World} {p b : Nat} {M : DataW Value} {S : DG} {Fp : Nat → Prop} (hd : DiskAt w p b M S Fp) (s : ByteArray) (hs : s.size ≤ maxLen) (v : Value) (hv : M.atKey (.string s.data.toList) nils = .held v) :
    (Instr.lookup 83 (.map (some b)) (.string s) true).run Tryz.prog w = .ok (.tuple #[v, .bool (S.f s.data.toList).isSome]) w := by
  obtain ⟨u, ps, hrun, hu⟩ := hd.own.look_ok keyed Tryz.underlying83 (zeroSlice w) (show rv (.slice none 0 0) = some (nils, []) from rfl) (keyOfS s hs)
  rw [hv] at hu
  have := rv_inv hu
  cases this
  rw [hd.has] at hrun
  exact hrun

set_option maxHeartbeats 1000000 in
theorem file_any (p : Nat) (S : DG) (Fp : Nat → Prop) (w : World) (s : ByteArray) (hd : IsDisk w p S Fp) (hs : s.size ≤ maxLen) :
    Calls Tryz.prog 53 #[.pointer (some ⟨p, 0, none⟩), .string s] w fun e w' => ∃ a c, e = .returned (.tuple #[.slice a ((S.f s.data.toList).getD []).length c, .int .i64 (S.err s.data.toList)]) ∧ w' = w ∧
      Bytes w a ((S.f s.data.toList).getD []).length ((S.f s.data.toList).getD []) ∧ ((S.f s.data.toList).getD []).length ≤ c ∧ (a = none → ((S.f s.data.toList).getD []).length = 0 ∧ c = 0) ∧
      ∃ b M, DiskAt w p b M S Fp ∧ M.atKey (.string s.data.toList) nils = .held (.slice a ((S.f s.data.toList).getD []).length c) := by
  obtain ⟨b, M, hd⟩ := hd
  obtain ⟨v, hv, hrow, hvo⟩ := hd.value s.data.toList
  obtain ⟨a, c, rfl, hac, hnn⟩ := ownsRow_shape hrow
  have hlk := hd.look s hs _ hv
  have c0 := hd.c0
  have hby := (ownsRow_toBytes hrow).1
  have HD : Hid (DiskAt w p b M S Fp) := hd
  have HV : Hid (M.atKey (.string s.data.toList) nils = .held (.slice a ((S.f s.data.toList).getD []).length c)) := hv
  clear hd hv
  cases hf : S.f s.data.toList with
  | none =>
    rw [hf] at hlk hby hac hnn HV hrow
    simp only [Option.getD_none, List.length_nil] at hlk hby hac hnn HV hrow
    obtain ⟨rfl, rfl⟩ : a = none ∧ c = 0 := by
      rcases hrow.2 with ⟨e, _⟩ | ⟨g, cap, cur, e, _⟩
      · cases e; exact ⟨rfl, rfl⟩
      · cases e
        have := (hvo g rfl).2.2.2
        rw [hf] at this
        cases this
    go_enter Tryz.func53, Tryz.ntmps53
    go_wp2
    go_ret2
    exact ⟨none, 0, by simp [DG.err, hf], rfl, hby, by simp, b, M, HD.out, HV.out⟩
  | some bs =>
    rw [hf] at hlk hby hac hnn HV hrow
    simp only [Option.getD_some] at hlk hby hac hnn HV hrow
    go_enter Tryz.func53, Tryz.ntmps53
    go_wp2
    go_ret2
    exact ⟨a, c, by simp [DG.err, hf], rfl, hby, hac, hnn, b, M, HD.out, HV.out⟩

/-- what a file holds; nothing, where there is none -/
def DG.bs (S : DG) (l : List UInt8) : List UInt8 := (S.f l).getD []

set_option maxHeartbeats 1000000 in
theorem read_any (p : Nat) (S : DG) (Fp : Nat → Prop) (w : World) (s : ByteArray) (hd : IsDisk w p S Fp) (hs : s.size ≤ maxLen) (hbig : (S.bs s.data.toList).length ≤ 140737488355328) :
    Calls Tryz.prog 19 #[.pointer (some ⟨p, 0, none⟩), .string s] w fun e w' => ∃ a c, e = .returned (.tuple #[.slice a (S.bs s.data.toList).length c, .int .i64 (S.err s.data.toList)]) ∧
      w'.ownsRow w.heap.size 5 1 (.slice a (S.bs s.data.toList).length c) (S.bs s.data.toList).length (cellsOf (S.bs s.data.toList)) ∧ Below w.heap.size w w' ∧ (S.bs s.data.toList).length ≤ c ∧ (a = none → (S.bs s.data.toList).length = 0 ∧ c = 0) := by
  have hx := file_any p S Fp w s hd hs
  change Calls _ _ _ _ fun e w' => ∃ a c, e = .returned (.tuple #[.slice a (S.bs s.data.toList).length c, .int .i64 (S.err s.data.toList)]) ∧ w' = w ∧ Bytes w a (S.bs s.data.toList).length (S.bs s.data.toList) ∧ (S.bs s.data.toList).length ≤ c ∧ (a = none → (S.bs s.data.toList).length = 0 ∧ c = 0) ∧ _ at hx
  generalize S.bs s.data.toList = bs at *
  generalize S.err s.data.toList = er at *
  go_enter Tryz.func19, Tryz.ntmps19
  go_wp2_with fail
  refine hx.mono ?_
  rintro e w1 ⟨a, c, rfl, rfl, hb, hc, hn, _⟩
  go_wp2_with fail
  refine (clone_any a bs.length c bs _ hb hn hbig).mono ?_
  rintro e w2 ⟨a', c', rfl, hown, hB, hnc, hnn⟩
  go_wp2
  go_ret2
  exact ⟨a', c', rfl, hown, hB, hnc, hnn⟩

theorem writes_any (p : Nat) (S : DG) (Fp : Nat → Prop) (w : World) (hd : IsDisk w p S Fp) :
    Calls Tryz.prog 12 #[.pointer (some ⟨p, 0, none⟩)] w fun e w' => e = .returned (.int .i64 S.wr) ∧ w' = w := by
  obtain ⟨b, M, hd⟩ := hd
  have c1 := hd.c1
  clear hd
  go_enter Tryz.func12, Tryz.ntmps12
  go_wp2
  go_ret
  exact ⟨rfl, rfl⟩

set_option maxHeartbeats 1000000 in
/-- New: a disk without files -/
theorem new_any (w : World) : Calls Tryz.prog 9 #[] w fun e w' => e = .returned (.pointer (some ⟨w.heap.size + 1, 0, none⟩)) ∧ IsDisk w' (w.heap.size + 1) ⟨fun _ => none, 0, 0, false, 0⟩ (fun k => k = w.heap.size ∨ k = w.heap.size + 1) ∧ Below w.heap.size w w' := by
  have hmm := @run_makeMap Tryz.prog
  go_enter Tryz.func9, Tryz.ntmps9
  go_wp2
  go_ret
  refine ⟨rfl, ⟨w.heap.size, .map [], ?_⟩, ((Below.refl _ _).alloc (Nat.le_refl _) _).alloc (by simp) _⟩
  have hm := World.ownsMap_made w Tryz.prog 9 rv
  refine { c0 := by simp, c1 := by simp, c2 := by simp, c3 := by simp, f1 := by simp, f2 := by simp, f3 := by simp, hl := by simp, pb := by omega, own := hm.alloc _, sz := rfl, has := fun l => rfl, row := by simp, apart := by simp, fp := .inr rfl, fb := .inl rfl, lt := ?_ }
  rintro k (rfl | rfl) <;> simp
  omega

/-- what Append leaves, and what it answers -/
def DG.app (S : DG) (nm l : List UInt8) : DG × Int :=
  if nameB nm = false then (S, 2)
  else if l.length + (S.bs nm).length > 4194304 ∨ (S.f nm = none ∧ 256 ≤ S.n) then (S, 3)
  else if (S.f nm).isSome = true ∧ l = [] then (S, 0)
  else pieces (l.length + 1) S nm l

set_option maxRecDepth 20000 in
set_option maxHeartbeats 1000000 in
theorem append_any (p : Nat) (S : DG) (Fp : Nat → Prop) (w : World) (s : ByteArray) (a : Option Addr) (m c : Nat) (l : List UInt8) (hd : IsDisk w p S Fp) (hs : s.size ≤ maxLen)
    (hb : Bytes w a m l) (hmc : m ≤ c) (hnil : a = none → m = 0 ∧ c = 0) (ha : 0 < m → ∀ x, a = some x → ¬ Fp x.block ∧ x.block < w.heap.size) (hbs : (S.bs s.data.toList).length ≤ 4194304) (hn : S.n ≤ 256) (hw : S.wr < 4000000000000000000) (hm : m ≤ 9223372036854775807) :
    Calls Tryz.prog 20 #[.pointer (some ⟨p, 0, none⟩), .string s, .slice a m c] w fun e w' =>
      e = .returned (.int .i64 (S.app s.data.toList l).2) ∧ IsDisk w' p (S.app s.data.toList l).1 (grow Fp w w') ∧ Turn Fp w w' := by
  have hnm := name_any s w hs
  have hll := hb.1
  have HG : ∀ T : DG, IsDisk w p T Fp → IsDisk w p T (grow Fp w w) ∧ Turn Fp w w := fun T hT => ⟨grow_lt hT hd.lt (fun k hk => .inl hk) (Nat.le_refl _), Turn.refl _ _⟩
  cases hname : nameB s.data.toList with
  | false =>
    rw [hname] at hnm
    have e : S.app s.data.toList l = (S, 2) := by simp [DG.app, hname]
    rw [e]
    have hR := HG S hd
    clear HG hd
    go_enter Tryz.func20, Tryz.ntmps20
    go_wp2_with (go_at_call 55; refine hnm.mono ?_; rintro e w' ⟨rfl, rfl⟩)
    go_ret
    exact ⟨rfl, hR⟩
  | true =>
    rw [hname] at hnm
    obtain ⟨b, M, hD⟩ := hd
    obtain ⟨v, hv, hrow, hvo⟩ := hD.value s.data.toList
    obtain ⟨va, vc, rfl, hac, hnn⟩ := ownsRow_shape hrow
    have hlk := hD.look s hs _ hv
    have c0 := hD.c0
    have hsz := hD.own.len Tryz.underlying83 3
    rw [hD.sz] at hsz
    have hd : IsDisk w p S Fp := ⟨b, M, hD⟩
    have HL : Hid ((S.bs s.data.toList).length = ((S.f s.data.toList).getD []).length) := rfl
    have hpc := pieces_any p S Fp w s a m c l hd hb hmc hnil ha hs
    have hLL : ((S.f s.data.toList).getD []).length = (S.bs s.data.toList).length := rfl
    rw [hLL] at hlk hpc
    clear hv hrow hvo hac hnn hD
    generalize hL : (S.bs s.data.toList).length = L at *
    by_cases hlong : m + L > 4194304
    · have i1 : (4194304 : Int) - L < m := by omega
      have e : S.app s.data.toList l = (S, 3) := by
        unfold DG.app
        rw [if_neg (by simp [hname]), if_pos (.inl (by rw [hL]; omega))]
      rw [e]
      have hR := HG S hd
      clear HG hd hpc
      go_enter Tryz.func20, Tryz.ntmps20
      go_wp2_with (go_at_call 55; refine hnm.mono ?_; rintro e w' ⟨rfl, rfl⟩)
      go_ret
      exact ⟨rfl, hR⟩
    · have i1 : ¬ (4194304 : Int) - L < m := by omega
      have hi1 : (m : Int) ≤ 4194304 - L := by omega
      cases hf : S.f s.data.toList with
      | none =>
        rw [hf] at hlk
        simp only [Option.isSome_none] at hlk
        by_cases hfull : 256 ≤ S.n
        · have i2 : (256 : Int) ≤ (S.n : Int) := by omega
          have e : S.app s.data.toList l = (S, 3) := by
            unfold DG.app
            rw [if_neg (by simp [hname]), if_pos (.inr ⟨hf, hfull⟩)]
          rw [e]
          have hR := HG S hd
          clear HG hd hpc
          go_enter Tryz.func20, Tryz.ntmps20
          go_wp2_with (go_at_call 55; refine hnm.mono ?_; rintro e w' ⟨rfl, rfl⟩)
          go_ret
          exact ⟨rfl, hR⟩
        · have i2 : ¬ (256 : Int) ≤ (S.n : Int) := by omega
          have e : S.app s.data.toList l = pieces (m + 1) S s.data.toList l := by
            unfold DG.app
            rw [if_neg (by simp [hname]), if_neg (by rw [hL, hf]; simp; omega), if_neg (by simp [hf]), hll]
          rw [e]
          have hR := hpc (by omega) (by unfold maxLen; omega) (by omega)
          clear HG hd hpc
          go_enter Tryz.func20, Tryz.ntmps20
          go_wp2_with (first | (go_at_call 55; refine hnm.mono ?_; rintro e w' ⟨rfl, rfl⟩) | (go_at_call 56; refine hR.mono ?_; rintro e w' ⟨rfl, hR2⟩))
          go_ret
          exact ⟨rfl, hR2⟩
      | some bs =>
        rw [hf] at hlk
        simp only [Option.isSome_some] at hlk
        by_cases h0 : m = 0
        · have e : S.app s.data.toList l = (S, 0) := by
            unfold DG.app
            rw [if_neg (by simp [hname]), if_neg (by rw [hL, hf]; simp; omega), if_pos ⟨by simp [hf], List.eq_nil_of_length_eq_zero (by omega)⟩]
          rw [e]
          have hR := HG S hd
          subst h0
          clear HG hd hpc
          go_enter Tryz.func20, Tryz.ntmps20
          go_wp2_with (go_at_call 55; refine hnm.mono ?_; rintro e w' ⟨rfl, rfl⟩)
          go_ret
          exact ⟨rfl, hR⟩
        · have i2 : ¬ (m : Int) = 0 := by omega
          have e : S.app s.data.toList l = pieces (m + 1) S s.data.toList l := by
            unfold DG.app
            rw [if_neg (by simp [hname]), if_neg (by rw [hL, hf]; simp; omega), if_neg (by intro h; exact h0 (by rw [← hll, h.2]; rfl)), hll]
          rw [e]
          have hR := hpc (by omega) (by unfold maxLen; omega) (by omega)
          clear HG hd hpc
          go_enter Tryz.func20, Tryz.ntmps20
          go_wp2_with (first | (go_at_call 55; refine hnm.mono ?_; rintro e w' ⟨rfl, rfl⟩) | (go_at_call 56; refine hR.mono ?_; rintro e w' ⟨rfl, hR2⟩))
          go_ret
          exact ⟨rfl, hR2⟩

end Go.Proofs.YtdjodigimhgklaaGreatDoor

/- The walks of Cut, Mend, Copy, and of the comparison of bytes. -/
namespace Go.Proofs.YtdjodigimhgklaaGreatDoor
open Go.RowKit Go.Maps

theorem turn_fields {w : World} {p : Nat} {S : DG} {Fp : Nat → Prop} (hd : IsDisk w p S Fp) (v u : Value) : Turn Fp w ((w.setCell ⟨p, 2, none⟩ v).setCell ⟨p, 3, none⟩ u) :=
  ((turn_setCell w p 2 v).trans (turn_setCell _ p 3 u) (fun _ _ h => h)).wide (fun k hk => by subst hk; exact hd.fp)

theorem DiskAt.setCut {w : World} {p b : Nat} {M : DataW Value} {S : DG} {Fp : Nat → Prop} (h : DiskAt w p b M S Fp) (c : Bool) (n : Nat) (hn : n ≤ 9223372036854775807) :
    DiskAt ((w.setCell ⟨p, 2, none⟩ (.bool c)).setCell ⟨p, 3, none⟩ (.int .i64 n)) p b M { S with cut := c, left := n } Fp := by
  have h1 := h.field 2 (.bool c) (by decide) { S with cut := c } rfl rfl h.hl (by rw [World.cell?_setCell_other _ _ _ _ (by simp)]; exact h.c1) (World.cell?_setCell_same _ _ _ h.c2) (by rw [World.cell?_setCell_other _ _ _ _ (by simp)]; exact h.c3)
  exact h1.field 3 (.int .i64 n) (by decide) { S with cut := c, left := n } rfl rfl hn (by rw [World.cell?_setCell_other _ _ _ _ (by simp)]; exact h1.c1) (by rw [World.cell?_setCell_other _ _ _ _ (by simp)]; exact h1.c2) (World.cell?_setCell_same _ _ _ h1.c3)

set_option maxHeartbeats 1000000 in
theorem cut_any (p : Nat) (S : DG) (Fp : Nat → Prop) (w : World) (n : Nat) (hd : IsDisk w p S Fp) (hn : n ≤ 9223372036854775807) :
    Calls Tryz.prog 32 #[.pointer (some ⟨p, 0, none⟩), .int .i64 n] w fun e w' => e = .returned (.int .i64 0) ∧ IsDisk w' p { S with cut := true, left := n } Fp ∧ Turn Fp w w' := by
  have hT := turn_fields hd (.bool true) (.int .i64 n)
  obtain ⟨b, M, hd⟩ := hd
  have h2 := hd.setCut true n hn
  have c2 := hd.c2
  have c3 := hd.c3
  have f2 := hd.f2
  have f3 := hd.f3
  have i0 : ¬ (n : Int) < 0 := by omega
  clear hd
  go_enter Tryz.func32, Tryz.ntmps32
  go_wp2
  go_ret
  exact ⟨rfl, ⟨b, M, h2⟩, hT⟩

theorem cut_no (p : Nat) (w : World) (n : Int) (hn : n < 0) :
    Calls Tryz.prog 32 #[.pointer (some ⟨p, 0, none⟩), .int .i64 n] w fun e w' => e = .returned (.int .i64 2) ∧ w' = w := by
  go_enter Tryz.func32, Tryz.ntmps32
  go_wp2
  go_ret
  exact ⟨rfl, rfl⟩

set_option maxHeartbeats 1000000 in
theorem mend_any (p : Nat) (S : DG) (Fp : Nat → Prop) (w : World) (hd : IsDisk w p S Fp) :
    Calls Tryz.prog 34 #[.pointer (some ⟨p, 0, none⟩)] w fun e w' => e = .returned (.int .i64 0) ∧ IsDisk w' p { S with cut := false, left := 0 } Fp ∧ Turn Fp w w' := by
  have hT := turn_fields hd (.bool false) (.int .i64 0)
  obtain ⟨b, M, hd⟩ := hd
  have h2 := hd.setCut false 0 (by omega)
  have c2 := hd.c2
  have c3 := hd.c3
  have f2 := hd.f2
  have f3 := hd.f3
  clear hd
  go_enter Tryz.func34, Tryz.ntmps34
  go_wp2
  go_ret
  exact ⟨rfl, ⟨b, M, h2⟩, hT⟩

/-- the names of a map's files, each once -/
theorem strKeys_nodup {w : World} {b n : Nat} {M : DataW Value} (h : w.ownsMap Tryz.prog 9 rv b n M) : (strKeys M).Nodup ∧ ∀ x, x ∈ strKeys M ↔ has M (.string x) = true := by
  obtain ⟨es, hD, hpw, _⟩ := h.entries keyed
  obtain ⟨es', hD', hko⟩ := h.keysOf
  obtain rfl : es = es' := by rw [hD] at hD'; simpa using hD'
  subst hD
  have hk : ∀ q ∈ es, ∃ x, q.1 = .string x := fun q hq => by
    obtain ⟨v, hv⟩ := hko q hq
    obtain ⟨x, _, hx, _⟩ := Maps.keyOf_str Tryz.underlying9 hv
    exact ⟨x, hx⟩
  constructor
  · show (es.map fun q => strOf q.1).Nodup
    refine List.pairwise_map.2 (hpw.imp_of_mem fun {q r} hq hr hne e => hne ?_)
    obtain ⟨x, hx⟩ := hk q hq
    obtain ⟨y, hy⟩ := hk r hr
    rw [hx, hy] at e ⊢
    exact congrArg _ e
  · intro x
    rw [has_eq, List.any_eq_true]
    show x ∈ es.map (fun q => strOf q.1) ↔ _
    rw [List.mem_map]
    constructor
    · rintro ⟨q, hq, rfl⟩
      obtain ⟨y, hy⟩ := hk q hq
      exact ⟨q, hq, by rw [hy]; simp [Lit.sameKey, strOf]⟩
    · rintro ⟨q, hq, hs⟩
      obtain ⟨y, hy⟩ := hk q hq
      rw [hy] at hs
      exact ⟨q, hq, by rw [hy]; simpa [Lit.sameKey, strOf] using hs⟩
theorem strKeys_length {w : World} {b n : Nat} {M : DataW Value} (h : w.ownsMap Tryz.prog 9 rv b n M) : (strKeys M).length = size M := by
  obtain ⟨es, rfl⟩ := h.isMap
  simp [strKeys, size]
/-- two maps of files with the same names -/
theorem strKeys_same {w w' : World} {b b' n n' : Nat} {M M' : DataW Value} (h : w.ownsMap Tryz.prog 9 rv b n M) (h' : w'.ownsMap Tryz.prog 9 rv b' n' M') (hs : ∀ x, has M (.string x) = has M' (.string x)) : (strKeys M).Perm (strKeys M') := by
  obtain ⟨n1, m1⟩ := strKeys_nodup h
  obtain ⟨n2, m2⟩ := strKeys_nodup h'
  exact (List.perm_ext_iff_of_nodup n1 n2).2 fun x => by rw [m1, m2, hs]

theorem ranges_move {w w' : World} {b r n cnt : Nat} {M : DataW Value} {left : Lit → Bool} (h : w.ranges Tryz.prog 9 rv b r n M left cnt) (hb : w'.heap[b]? = w.heap[b]?) (hr : w'.heap[r]? = w.heap[r]?) : w'.ranges Tryz.prog 9 rv b r n M left cnt := by
  obtain ⟨es, clock, since, seen, c0, h1, F, h2, h3, h4, rest⟩ := h
  exact ⟨es, clock, since, seen, c0, hb.trans h1, F, h2, h3, hr.trans h4, rest⟩

theorem ownsRow_zero {w : World} {B n : Nat} {v : Value} {xs : List Value} (h : w.ownsRow B 5 1 v n xs) : w.ownsRow 0 5 1 v n xs := by
  refine ⟨h.1, ?_⟩
  rcases h.2 with h0 | ⟨g, cap, cur, rfl, _, h2⟩
  · exact .inl h0
  · exact .inr ⟨g, cap, cur, rfl, Nat.zero_le _, h2⟩

/-- a copy of a disk's files -/
def DG.copy (S : DG) : DG := ⟨S.f, S.n, 0, false, 0⟩

end Go.Proofs.YtdjodigimhgklaaGreatDoor

/- Bytes turned into a string; the walk of the comparison of bytes; append under a guard; what pieces leave, in closed form. -/
namespace Go.Proofs.YtdjodigimhgklaaGreatDoor
open Go.RowKit Go.Maps



set_option maxHeartbeats 1000000 in
theorem equal_any (w : World) (a b : Option Addr) (n m c d : Nat) (l k : List UInt8) (ha : Bytes w a n l) (hb : Bytes w b m k) :
    Calls Tryz.prog 25 #[.slice a n c, .slice b m d] w fun e w' => e = .returned (.bool (decide (l = k))) ∧ w' = w := by
  have r1 := run_string w a n c l ha
  have r2 := run_string w b m d k hb
  go_enter Tryz.func25, Tryz.ntmps25
  go_wp2
  go_ret
  refine ⟨?_, rfl⟩
  simp
  rw [Bool.eq_iff_iff]
  simp

theorem wpList_append_row_g (w : World) {ops : Array Oper} {rest : List Oper} {o : Oper} {a : Act} {Q : Exit → Act → World → Prop} (hgd : Region.wanted o (yielded ops a.tmps) = true) (s x : Operand)
    (ho : o.op = .call { callee := .builtin .append, args := #[s, x], argTypes := #[33, 33] })
    (v : Value) (n : Nat) (xs : List Value) (hs : a.eval s = v) (hown : w.ownsRow 0 5 1 v n xs) (ad : Option Addr) (m c : Nat) (l : List UInt8) (hx : a.eval x = .slice ad m c) (hb : Bytes w ad m l) (hnil : ad = none → m = 0 ∧ c = 0) (hm : n + m ≤ 140737488355328)
    (h : ∀ v' w', w'.ownsRow 0 5 1 v' (n + m) (xs ++ cellsOf l) → w.grownBy w' v.ownBlock → (v'.ownBlock = v.ownBlock ∨ v'.ownBlock = some w.heap.size) → wpList Tryz.prog ops Q rest (a.put o.dst v') w') : wpList Tryz.prog ops Q (o :: rest) a w := by
  unfold wpList
  rw [if_pos hgd]
  exact .inl (wp_append_row w s x ho v n xs hs hown ad m c l hx hb hnil hm h)

/-! ### what pieces leave -/
theorem add_add (S : DG) (nm l k : List UInt8) : (S.add nm l).add nm k = S.add nm (l ++ k) := by
  unfold DG.add DG.set
  simp only [if_true, Option.getD_some, Option.isSome_some, List.append_assoc]
  congr 1
  funext x
  split <;> rfl
theorem done_add (S : DG) (nm l : List UInt8) : (S.add nm l).done = S.done.add nm l := rfl
theorem add_wr (S : DG) (nm l : List UInt8) (n : Nat) : { S.add nm l with wr := n } = { S with wr := n }.add nm l := rfl

theorem pieces_free : ∀ (k : Nat) (S : DG) (nm l : List UInt8), S.cut = false → l.length + 1 ≤ k → pieces k S nm l = ({ S with wr := S.wr + (if l = [] then 1 else (l.length + 31) / 32) }.add nm l, 0) := by
  intro k
  induction k with
  | zero => intro S nm l _ h; omega
  | succ k ih =>
    intro S nm l hc h
    rw [pieces, if_pos (by simp [DG.can, hc])]
    split
    · rename_i h32
      have e : (if l = [] then 1 else (l.length + 31) / 32) = 1 := by
        split
        · rfl
        · rename_i h0
          have : l.length ≠ 0 := fun h' => h0 (List.eq_nil_of_length_eq_zero h')
          omega
      rw [e]
      simp [DG.done, hc]
    · rename_i h32
      rw [ih _ nm (l.drop 32) (by simp [DG.add, DG.set, DG.done, hc]) (by simp; omega)]
      have hne : l.drop 32 ≠ [] := fun h' => by have := congrArg List.length h'; simp at this; omega
      have hl0 : l ≠ [] := fun h' => by rw [h'] at h32; simp at h32
      rw [if_neg hne, if_neg hl0, add_wr]
      congr 1
      have e1 : (S.done.add nm (l.take 32)).wr + ((l.drop 32).length + 31) / 32 = S.wr + (l.length + 31) / 32 := by
        simp [DG.add, DG.set, DG.done]; omega
      rw [e1]
      have e2 : { S.done with wr := S.wr + (l.length + 31) / 32 } = { S with wr := S.wr + (l.length + 31) / 32 } := by simp [DG.done, hc]
      rw [e2, add_add, List.take_append_drop]

theorem pieces_cut : ∀ (k : Nat) (S : DG) (nm l : List UInt8), S.cut = true → l.length + 1 ≤ k → S.left * 32 < l.length → (pieces k S nm l).2 = 6 ∧ (pieces k S nm l).1.bs nm = S.bs nm ++ l.take (S.left * 32) ∧ (S.left = 0 → (pieces k S nm l).1 = S) := by
  intro k
  induction k with
  | zero => intro S nm l _ h; omega
  | succ k ih =>
    intro S nm l hc h hlt
    by_cases h0 : S.left = 0
    · rw [pieces, if_neg (by simp [DG.can, hc, h0])]
      simp [h0]
    · rw [pieces, if_pos (by simp [DG.can, hc, h0]), if_neg (by omega)]
      obtain ⟨h1, h2, _⟩ := ih (S.done.add nm (l.take 32)) nm (l.drop 32) (by simp [DG.add, DG.set, DG.done, hc]) (by simp; omega) (by simp [DG.add, DG.set, DG.done, hc]; omega)
      refine ⟨h1, ?_, fun h' => absurd h' h0⟩
      rw [h2]
      have e : (S.done.add nm (l.take 32)).left = S.left - 1 := by simp [DG.add, DG.set, DG.done, hc]
      have e1 : (S.done.add nm (l.take 32)).bs nm = S.bs nm ++ l.take 32 := by simp [DG.add, DG.set, DG.done, DG.bs]
      rw [e, e1, List.append_assoc]
      congr 1
      have : S.left * 32 = 32 + (S.left - 1) * 32 := by omega
      rw [this, List.take_add]

end Go.Proofs.YtdjodigimhgklaaGreatDoor
