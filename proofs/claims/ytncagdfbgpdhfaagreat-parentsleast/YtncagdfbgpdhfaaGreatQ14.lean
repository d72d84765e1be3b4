import Derived.Test.YtncagdfbgpdhfaaGreatQ13
import Derived.WalkMore
import Derived.Test.YtncagdfbgpdhfaaGreatProg
import Derived.Test.YtncagdfbgpdhfaaGreatQ01
import Derived.Outline
import Derived.Lib.SlBytesConst
import Derived.Lib.SliceRun
import Derived.BigQuiet
import Derived.Deep.QuietTactic
/- The walk of the loop that puts bytes behind a file's end piece by piece. -/
namespace Go.Proofs.YtncagdfbgpdhfaaGreat
open Go.RowKit Go.Maps

/-- how long a slice is -/
def lenOf : Value → Nat
  | .slice _ n _ => n
  | _ => 0

/-- what is left when bytes are put behind a file's end by raw writes, and what is answered -/
def pieces : Nat → DG → List UInt8 → List UInt8 → DG × Int
  | 0, S, _, _ => (S, 0)
  | k + 1, S, nm, l => if S.can = true then (if l.length ≤ 32 then (S.done.add nm l, 0) else pieces k (S.done.add nm (l.take 32)) nm (l.drop 32)) else (S, 6)

theorem pieces_more : ∀ (k j : Nat) (S : DG) (nm l : List UInt8), l.length + 1 ≤ k → l.length + 1 ≤ j → pieces k S nm l = pieces j S nm l := by
  intro k
  induction k with
  | zero => intro j S nm l h; omega
  | succ k ih =>
    intro j S nm l h hj
    obtain ⟨j, rfl⟩ : ∃ i, j = i + 1 := ⟨j - 1, by omega⟩
    rw [pieces]
    conv => rhs; rw [pieces]
    split
    · split
      · rfl
      · rename_i h32
        exact ih j _ _ (l.drop 32) (by simp; omega) (by simp; omega)
    · rfl
theorem pieces_fuel (k : Nat) (S : DG) (nm l : List UInt8) (h : l.length + 1 ≤ k) : pieces k S nm l = pieces (l.length + 1) S nm l := pieces_more k _ S nm l h (Nat.le_refl _)

theorem call34 (caps : Array Value) (w : World) : (callFunc 164 caps).run Tryz.prog w = .ok (.enter 164 caps) w := by
  have hf : Tryz.prog.funcs[164]? = some Tryz.f164 := Tryz.func164
  have h1 : ¬ Tryz.f164.name = "runtime.NumGoroutine" := by decide +kernel
  have h3 : Tryz.f164.body.isNone = false := by kernel_rfl
  have h2 : ¬ Tryz.f164.body = Option.none := fun e => by rw [e] at h3; cases h3
  simp [callFunc, go_sem, hf, h1, h2]

theorem grow_lt {w w' : World} {p : Nat} {S : DG} {Fp Gp : Nat → Prop} (h : IsDisk w' p S Gp) (hF : ∀ k, Fp k → k < w.heap.size) (hG : ∀ k, Gp k → Fp k ∨ w.heap.size ≤ k) (hs : w.heap.size ≤ w'.heap.size) : IsDisk w' p S (grow Fp w w') :=
  h.wide (fun k hk => (hG k hk).elim .inl (fun h1 => .inr ⟨h1, h.lt k hk⟩)) (fun k hk => hk.elim (fun h1 => Nat.lt_of_lt_of_le (hF k h1) hs) (fun h1 => h1.2))

theorem IsDisk.fp {w : World} {p : Nat} {S : DG} {Fp : Nat → Prop} (h : IsDisk w p S Fp) : Fp p := by
  obtain ⟨b, M, h⟩ := h
  exact h.fp

/-- one raw write that puts a piece behind a file's end, or does not -/
theorem rawPiece (p : Nat) (S : DG) (Gp : Nat → Prop) (wr : World) (s : ByteArray) (Bd Bn : Nat) (a : Option Addr) (q c : Nat) (l : List UInt8) (hd : IsDisk wr p S Gp)
    (k0 : wr.cell? ⟨Bd, 0, none⟩ = some (.pointer (some ⟨p, 0, none⟩))) (k1 : wr.cell? ⟨Bn, 0, none⟩ = some (.string s)) (nd : ¬ Gp Bd) (nn : ¬ Gp Bn)
    (hb : Bytes wr a q l) (hnil : a = none → q = 0 ∧ c = 0) (ha : 0 < q → ∀ x, a = some x → ¬ Gp x.block) (hs : s.size ≤ maxLen) (hlen : ((S.f s.data.toList).getD []).length + q ≤ 140737488355328) (hn : S.n < maxLen) (hw : S.wr < 4611686018427387904) :
    Calls Tryz.prog 97 #[.pointer (some ⟨p, 0, none⟩), .func (.func 164) #[] #[.pointer (some ⟨Bd, 0, none⟩), .pointer (some ⟨Bn, 0, none⟩), .pointer (some ⟨wr.heap.size, 0, none⟩)]] (wr.alloc (.cells #[.slice a q c] 80)) fun e w' =>
      e = .returned (.int .i64 (if S.can = true then 0 else 6)) ∧ IsDisk w' p (if S.can = true then S.done.add s.data.toList l else S) (grow Gp wr w') ∧ Turn Gp wr w' := by
  have hBa : Below wr.heap.size wr (wr.alloc (.cells #[.slice a q c] 80)) := (Below.refl _ _).alloc (Nat.le_refl _) _
  have hda := hd.below hBa
  have hTa : Turn Gp wr (wr.alloc (.cells #[.slice a q c] 80)) := Turn.of_below _ hBa
  have hlt := hd.lt
  by_cases hc : S.can = true
  · simp only [hc, if_true]
    refine (raw_done 164 p _ S Gp _ (fun w' => IsDisk w' p (S.done.add s.data.toList l) (grow Gp wr w') ∧ Turn Gp wr w') (call34 _) hda hw hc ?_).mono fun e w' ⟨he, hR⟩ => ⟨he, hR⟩
    intro w1 _ hd1 hT1 hs1
    have hp := hd.fp
    have ne0 : ¬ Bd = p := fun e => nd (e ▸ hp)
    have ne1 : ¬ Bn = p := fun e => nn (e ▸ hp)
    have ne2 : ¬ wr.heap.size = p := fun e => by have := hlt p hp; omega
    have c0 : w1.cell? ⟨Bd, 0, none⟩ = some (.pointer (some ⟨p, 0, none⟩)) := hT1.cell (hTa.cell k0 nd) ne0
    have c1 : w1.cell? ⟨Bn, 0, none⟩ = some (.string s) := hT1.cell (hTa.cell k1 nn) ne1
    have c2 : w1.cell? ⟨wr.heap.size, 0, none⟩ = some (.slice a q c) := hT1.cell (by simp) ne2
    have hb1 : Bytes w1 a q l := hT1.bytes (hTa.bytes hb ha) (fun h0 x hx e => ha h0 x hx (e ▸ hp))
    have hsz : w1.heap.size = wr.heap.size + 1 := by rw [hs1]; simp
    refine (piece_any p S.done Gp w1 s Bd Bn wr.heap.size a q c l hd1 c0 c1 c2 nd nn (fun h => by have := hlt _ h; omega) hb1 hnil hs hlen hn).mono fun e w' ⟨he, hd', hT'⟩ => ⟨he, ?_⟩
    have hT2 : Turn Gp wr w' := (hTa.trans hT1 (fun i _ h => by subst h; exact hp)).trans hT' (fun _ _ h => h)
    exact ⟨grow_lt hd' hlt (fun k hk => hk.elim .inl (fun h => .inr (by omega))) hT2.size, hT2⟩
  · simp only [hc, if_false, Bool.false_eq_true]
    refine (raw_cut 164 p _ S Gp _ hda (by simpa using hc)).mono fun e w' ⟨he, hw'⟩ => ⟨he, ?_⟩
    subst hw'
    exact ⟨grow_lt hda hlt (fun k hk => .inl hk) hTa.size, hTa⟩

set_option maxRecDepth 20000 in
set_option maxHeartbeats 2000000 in
theorem pieces_any (p : Nat) (S : DG) (Fp : Nat → Prop) (w : World) (s : ByteArray) (a : Option Addr) (m c : Nat) (l : List UInt8) (hd : IsDisk w p S Fp)
    (hb : Bytes w a m l) (hmc : m ≤ c) (hnil : a = none → m = 0 ∧ c = 0) (ha : 0 < m → ∀ x, a = some x → ¬ Fp x.block ∧ x.block < w.heap.size) (hs : s.size ≤ maxLen) (hlen : ((S.f s.data.toList).getD []).length + m ≤ 140737488355328) (hn : S.n + 1 < maxLen) (hw : S.wr + m < 4611686018427387904) :
    Calls Tryz.prog 141 #[.pointer (some ⟨p, 0, none⟩), .string s, .slice a m c] w fun e w' =>
      e = .returned (.int .i64 (pieces (m + 1) S s.data.toList l).2) ∧ IsDisk w' p (pieces (m + 1) S s.data.toList l).1 (grow Fp w w') ∧ Turn Fp w w' := by
  have hdlt := hd.lt
  obtain ⟨w0, hw0⟩ : ∃ w0, w0 = (w.alloc (.cells #[.pointer (some ⟨p, 0, none⟩)] 74)).alloc (.cells #[.string s] 9) := ⟨_, rfl⟩
  have hB0 : Below w.heap.size w w0 := by rw [hw0]; exact ((Below.refl _ _).alloc (Nat.le_refl _) _).alloc (by simp) _
  have hsz0 : w0.heap.size = w.heap.size + 2 := by rw [hw0]; simp
  have k0 : w0.cell? ⟨w.heap.size, 0, none⟩ = some (.pointer (some ⟨p, 0, none⟩)) := by rw [hw0]; simp
  have k1 : w0.cell? ⟨w.heap.size + 1, 0, none⟩ = some (.string s) := by rw [hw0]; simp
  have hd0 := hd.below hB0
  have hb0 : Bytes w0 a m l := (Turn.of_below (fun _ => False) hB0).bytes hb (fun _ _ _ => id)
  go_enter Tryz.func141, Tryz.ntmps141
  go_wp2_with fail
  rw [← hw0]
  clear hw0 hd hb
  go_step3
  go_wp2_with fail
  go_step3
  go_wp2_with fail
  go_loopw [2] (fun v wr => ∃ (S' : DG) (a' : Option Addr) (m' c' : Nat) (l' : List UInt8) (Gp : Nat → Prop), v = .slice a' m' c' ∧ Hid (IsDisk wr p S' Gp) ∧ Hid (∀ k, Gp k → Fp k ∨ w.heap.size + 2 ≤ k) ∧ Turn Fp w wr ∧
      wr.cell? ⟨w.heap.size, 0, none⟩ = some (.pointer (some ⟨p, 0, none⟩)) ∧ wr.cell? ⟨w.heap.size + 1, 0, none⟩ = some (.string s) ∧ Hid (Bytes wr a' m' l') ∧ m' ≤ c' ∧ Hid (a' = none → m' = 0 ∧ c' = 0) ∧ Hid (0 < m' → ∀ x, a' = some x → ¬ Fp x.block ∧ x.block < w.heap.size) ∧
      Hid (((S'.f s.data.toList).getD []).length + m' ≤ 140737488355328) ∧ Hid (S'.n + 1 < maxLen ∨ ((S'.f s.data.toList).isSome = true ∧ S'.n < maxLen)) ∧ Hid (S'.wr + m' < 4611686018427387904) ∧ Hid (pieces (m' + 1) S' s.data.toList l' = pieces (m + 1) S s.data.toList l))
    (fun v _ => lenOf v)
  case atStart =>
    exact ⟨S, a, m, c, l, Fp, rfl, hd0, fun k hk => .inl hk, Turn.of_below _ hB0, k0, k1, hb0, hmc, hnil, ha, hlen, .inl hn, hw, rfl⟩
  case round =>
    clear hd0 hB0 hb0 k0 k1 hn hw hlen hmc hnil ha hsz0
    obtain ⟨S', a', m', c', l', Gp, rfl, HD, HG, hT, k0, k1, HB, hmc', HN, HA, HL, Hn, Hw, HP⟩ := hrel
    have i0 : (0 : Int) ≤ (m' : Int) := by omega
    have i1 : (m' : Int) ≤ (c' : Int) := by omega
    have q0 := fun o => (World.grownBy_alloc wr o none).cell k0 (by simp)
    have q1 := fun o => (World.grownBy_alloc wr o none).cell k1 (by simp)
    have HX := fun (q : Nat) (hq : q ≤ m') => rawPiece p S' Gp wr s w.heap.size (w.heap.size + 1) a' q c' (l'.take q) HD.out k0 k1 (fun h => (HG.out _ h).elim (fun h1 => by have := hdlt _ h1; omega) (fun h1 => by omega)) (fun h => (HG.out _ h).elim (fun h1 => by have := hdlt _ h1; omega) (fun h1 => by omega))
      (HB.out.take q hq) (fun h => ⟨by have := (HN.out h).1; omega, (HN.out h).2⟩) (fun h0 x hx h => (HG.out _ h).elim (HA.out (by omega) x hx).1 (fun h1 => by have := (HA.out (by omega) x hx).2; omega)) hs (by have := HL.out; omega) (Hn.out.elim (fun h => by omega) (fun h => h.2)) (by have := Hw.out; omega)
    have hll := HB.out.1
    have HE : Hid (∀ w', (IsDisk w' p (pieces (m + 1) S s.data.toList l).1 (grow Gp wr w') ∧ Turn Gp wr w') → IsDisk w' p (pieces (m + 1) S s.data.toList l).1 (grow Fp w w') ∧ Turn Fp w w') := fun w' ⟨h1, h2⟩ => by
      have hT2 : Turn Fp w w' := hT.trans h2 (fun i hi h => (HG.out i h).elim id (fun h1 => by omega))
      exact ⟨grow_lt h1 hdlt (fun k hk => hk.elim (fun h => (HG.out k h).imp id (fun h1 => by omega)) (fun h => .inr (by have := hT.size; omega))) hT2.size, hT2⟩
    by_cases hcan : S'.can = true
    · by_cases hm : m' ≤ 32
      · have i2 : (m' : Int) ≤ 32 := by omega
        have hx := HX m' (Nat.le_refl _)
        rw [List.take_of_length_le (by omega)] at hx
        simp only [hcan, if_true] at hx
        have HF : Hid (pieces (m + 1) S s.data.toList l = (S'.done.add s.data.toList l', 0)) := by
          show _ = _
          rw [← HP.out, pieces, if_pos hcan, if_pos (by omega)]
        rw [HF.out] at HE
        clear HX HD HG HB HN HA HL Hn Hw HP
        by_cases hc : c' = m'
        · subst hc
          go_wp2_with fail
          refine hx.mono ?_
          rintro e w2 ⟨rfl, hR⟩
          go_wp2
          try rw [Exit.noGoto_ret]
          go_ret
          rw [HF.out]
          exact ⟨rfl, HE.out _ hR⟩
        · go_wp2_with fail
          refine hx.mono ?_
          rintro e w2 ⟨rfl, hR⟩
          go_wp2
          try rw [Exit.noGoto_ret]
          go_ret
          rw [HF.out]
          exact ⟨rfl, HE.out _ hR⟩
      · have i2 : ¬ (m' : Int) ≤ 32 := by omega
        have i3 : ¬ c' = 32 := by omega
        have hx := HX 32 (by omega)
        simp only [hcan, if_true] at hx
        go_wp2_with fail
        refine hx.mono ?_
        rintro e w2 ⟨rfl, hR⟩
        go_wp2
        have hm0 : 0 < m' := by omega
        obtain ⟨bb, off, rfl, hcell⟩ := HB.out.2 hm0
        have hA := HA.out hm0 ⟨bb, off, none⟩ rfl
        have hnG : ¬ Gp bb := fun h => (HG.out _ h).elim hA.1 (fun h1 => by have := hA.2; simp only at this; omega)
        have hT2 : Turn Fp w w2 := hT.trans hR.2 (fun i hi h => (HG.out i h).elim id (fun h1 => by omega))
        have nd : ¬ Gp w.heap.size := fun h => (HG.out _ h).elim (fun h1 => by have := hdlt _ h1; omega) (fun h1 => by omega)
        have nn : ¬ Gp (w.heap.size + 1) := fun h => (HG.out _ h).elim (fun h1 => by have := hdlt _ h1; omega) (fun h1 => by omega)
        refine ⟨⟨_, _, _, _, l'.drop 32, _, rfl, hR.1, ?_, hT2, hR.2.cell k0 nd, hR.2.cell k1 nn, ?_, by omega, ?_, ?_, ?_, ?_, ?_, ?_⟩, ?_⟩
        · intro k hk
          exact hk.elim (fun h => HG.out k h) (fun h => .inr (by have := World.block_lt_of_cell? wr _ k1; simp only at this; omega))
        · refine ⟨by simp; omega, fun h0 => ⟨bb, off + 32, rfl, fun i hi => ?_⟩⟩
          rw [bt_drop]
          have := hR.2.cell (hcell (32 + i) (by omega)) hnG
          rw [show off + 32 + i = off + (32 + i) by omega]
          exact this
        · intro h; simp at h
        · intro _ x hx
          simp only [Option.map_some, Option.some.injEq] at hx
          subst hx
          exact hA
        · have := HL.out
          show _ ≤ _
          simp only [DG.add, DG.set, DG.done, if_true, Option.getD_some, List.length_append, List.length_take]
          omega
        · refine .inr ⟨by simp [DG.add, DG.set], ?_⟩
          show (if (S'.f s.data.toList).isSome = true then S'.n else S'.n + 1) < maxLen
          rcases Hn.out with h | h
          · split <;> omega
          · rw [if_pos h.1]; exact h.2
        · have := Hw.out
          show _ < _
          simp only [DG.add, DG.set, DG.done]
          omega
        · show _ = _
          rw [← HP.out, pieces_fuel (m' + 1) _ _ l' (by omega), show l'.length + 1 = (m' - 1 + 1) + 1 by omega]
          conv => rhs; rw [pieces, if_pos hcan, if_neg (by omega)]
          rw [pieces_fuel (m' - 1 + 1) _ _ (l'.drop 32) (by simp; omega)]
          congr 1
          simp
          omega
        · show m' - 32 < m'
          omega
    · have HF : Hid (pieces (m + 1) S s.data.toList l = (S', 6)) := by
        show _ = _
        rw [← HP.out, pieces, if_neg hcan]
      rw [HF.out] at HE
      by_cases hm : m' ≤ 32
      · have i2 : (m' : Int) ≤ 32 := by omega
        have hx := HX m' (Nat.le_refl _)
        simp only [hcan, if_false, Bool.false_eq_true] at hx
        clear HX HD HG HB HN HA HL Hn Hw HP
        by_cases hc : c' = m'
        · subst hc
          go_wp2_with fail
          refine hx.mono ?_
          rintro e w2 ⟨rfl, hR⟩
          go_wp2
          try rw [Exit.noGoto_ret]
          go_ret
          rw [HF.out]
          exact ⟨rfl, HE.out _ hR⟩
        · go_wp2_with fail
          refine hx.mono ?_
          rintro e w2 ⟨rfl, hR⟩
          go_wp2
          try rw [Exit.noGoto_ret]
          go_ret
          rw [HF.out]
          exact ⟨rfl, HE.out _ hR⟩
      · have i2 : ¬ (m' : Int) ≤ 32 := by omega
        have i3 : ¬ c' = 32 := by omega
        have hx := HX 32 (by omega)
        simp only [hcan, if_false, Bool.false_eq_true] at hx
        clear HX HD HG HB HN HA HL Hn Hw HP
        go_wp2_with fail
        refine hx.mono ?_
        rintro e w2 ⟨rfl, hR⟩
        go_wp2
        try rw [Exit.noGoto_ret]
        go_ret
        rw [HF.out]
        exact ⟨rfl, HE.out _ hR⟩

end Go.Proofs.YtncagdfbgpdhfaaGreat

/- The walk of the look whether a text is a file's name. -/
namespace Go.Proofs.YtncagdfbgpdhfaaGreat
open Go.RowKit

/-- may this byte stand in a file's name? -/
def okc (c : Int) : Bool := (decide (97 ≤ c) && decide (c ≤ 122)) || (decide (48 ≤ c) && decide (c ≤ 57)) || decide (c = 45) || decide (c = 46)
def okTo (l : List UInt8) (k : Nat) : Bool := (List.range k).all fun j => okc (bt l j)
/-- is it a file's name? -/
def nameB (l : List UInt8) : Bool := decide (1 ≤ l.length) && decide (l.length ≤ 32) && okTo l l.length

theorem okTo_succ (l : List UInt8) (k : Nat) : okTo l (k + 1) = (okTo l k && okc (bt l k)) := by simp [okTo, List.range_succ]
theorem okTo_le (l : List UInt8) (k n : Nat) (h : okTo l n = true) (hk : k ≤ n) : okTo l k = true := by
  simp only [okTo, List.all_eq_true, List.mem_range] at h ⊢
  exact fun j hj => h j (by omega)

set_option maxHeartbeats 1000000 in
theorem name_any (s : ByteArray) (w : World) (hs : s.size ≤ maxLen) :
    Calls Tryz.prog 140 #[.string s] w fun e w' => e = .returned (.bool (nameB s.data.toList)) ∧ w' = w := by
  have hs' : s.size ≤ 9223372036854775807 := by unfold maxLen at hs; omega
  have hll : s.data.toList.length = s.size := by simp
  by_cases h1 : s.size < 1
  · have i1 : (s.size : Int) < 1 := by omega
    go_enter Tryz.func140, Tryz.ntmps140
    go_wp2
    go_ret
    refine ⟨?_, rfl⟩
    simp [nameB, show ¬ 1 ≤ s.size by omega]
  · have i1 : ¬ (s.size : Int) < 1 := by omega
    by_cases h2 : 32 < s.size
    · have i2 : (32 : Int) < s.size := by omega
      go_enter Tryz.func140, Tryz.ntmps140
      go_wp2
      go_ret
      refine ⟨?_, rfl⟩
      simp [nameB, show ¬ s.size ≤ 32 by omega]
    · have i2 : ¬ (32 : Int) < s.size := by omega
      go_enter Tryz.func140, Tryz.ntmps140
      go_wp2
      go_loop [15] (fun i => ∃ k : Nat, k ≤ s.size ∧ i = .int .i64 k ∧ Hid (okTo s.data.toList k = true)) (fun i => s.size - (intOf i).toNat)
      case atStart => exact ⟨0, by omega, rfl, rfl⟩
      case round =>
        obtain ⟨k, hk, rfl, hok⟩ := hrel
        by_cases hlt : k < s.size
        · have i3 : (k : Int) < s.size := by omega
          have hbt : bt s.data.toList k = (s[k].toNat : Int) := by
            unfold bt
            congr 2
            simp [List.getD, hlt]
            rfl
          go_wp2
          all_goals first
            | (refine ⟨⟨k + 1, by omega, by simp, ?_⟩, by simp [intOf]; omega⟩
               show okTo s.data.toList (k + 1) = true
               rw [okTo_succ, hok.out, hbt]
               simp [okc]
               omega)
            | (refine ⟨⟨k + 1, by omega, by simp, ?_⟩, by simp [intOf]; omega⟩
               show okTo s.data.toList (k + 1) = true
               rw [okTo_succ, hok.out, hbt]
               unfold okc
               grind)
            | (go_ret
               refine ⟨?_, rfl⟩
               have hno : okc (bt s.data.toList k) = false := by rw [hbt]; unfold okc; grind
               have : nameB s.data.toList = false := by
                 cases hnb : nameB s.data.toList with
                 | false => rfl
                 | true =>
                   simp only [nameB, Bool.and_eq_true, decide_eq_true_eq] at hnb
                   have := okTo_le _ (k + 1) _ hnb.2 (by omega)
                   rw [okTo_succ, hno] at this
                   simp at this
               rw [this]
               rfl)
        · have i3 : ¬ (k : Int) < s.size := by omega
          go_wp2
          go_ret
          refine ⟨?_, rfl⟩
          obtain rfl : k = s.size := by omega
          have := hok.out
          simp [nameB, show 1 ≤ s.size by omega, show s.size ≤ 32 by omega, this]
end Go.Proofs.YtncagdfbgpdhfaaGreat

/- The walks of the disk's calls that read, and of Append. -/
namespace Go.Proofs.YtncagdfbgpdhfaaGreat
open Go.RowKit Go.Maps

theorem ownsRow_shape {w : World} {B n : Nat} {v : Value} {xs : List Value} (h : w.ownsRow B 5 1 v n xs) : ∃ ad c, v = .slice ad n c ∧ n ≤ c ∧ (ad = none → n = 0 ∧ c = 0) := by
  rcases h.2 with ⟨rfl, rfl⟩ | ⟨g, cap, cur, rfl, _, _, hc, _⟩
  · exact ⟨none, 0, rfl, Nat.le_refl _, fun _ => ⟨rfl, rfl⟩⟩
  · exact ⟨_, _, rfl, hc, fun h => by cases h⟩

theorem ownsRow_toBytes {w : World} {B n c : Nat} {ad : Option Addr} {l : List UInt8} (h : w.ownsRow B 5 1 (.slice ad n c) n (cellsOf l)) : Bytes w ad n l ∧ ∀ x, ad = some x → B ≤ x.block ∧ x.block < w.heap.size := by
  have hll : l.length = n := by have := h.1; rw [cellsOf_length] at this; omega
  rcases h.2 with ⟨e, rfl⟩ | ⟨g, cap, cur, e, _⟩
  · cases e
    exact ⟨⟨hll, fun h0 => by omega⟩, by simp⟩
  · cases e
    refine ⟨⟨hll, fun _ => ⟨g, 0, rfl, fun i hi => ?_⟩⟩, fun x hx => ?_⟩
    · have := h.cells (g := g) rfl i _ (cellsOf_get l i (by omega))
      rw [Addr.add_lit] at this
      exact this
    · cases hx
      exact h.lt g rfl

theorem ownsRow_base {w : World} {B n : Nat} {v : Value} {xs : List Value} (h : w.ownsRow 0 5 1 v n xs) (hB : ∀ g, v.ownBlock = some g → B ≤ g) : w.ownsRow B 5 1 v n xs := by
  refine ⟨h.1, ?_⟩
  rcases h.2 with h0 | ⟨g, cap, cur, rfl, _, h2⟩
  · exact .inl h0
  · exact .inr ⟨g, cap, cur, rfl, hB g rfl, h2⟩

set_option maxHeartbeats 1000000 in
theorem clone_any (a : Option Addr) (n c : Nat) (l : List UInt8) (w : World) (hb : Bytes w a n l) (hnil : a = none → n = 0 ∧ c = 0) (hbig : n ≤ 140737488355328) :
    Calls Tryz.prog 71 #[.slice a n c] w fun e w' => ∃ a' c', e = .returned (.slice a' n c') ∧ w'.ownsRow w.heap.size 5 1 (.slice a' n c') n (cellsOf l) ∧ Below w.heap.size w w' ∧ n ≤ c' ∧ (a' = none → n = 0 ∧ c' = 0) := by
  have q22 : ∀ (w : World) (a : Option Addr) (n c n' c' : Nat), (binOp .eql 80 (.slice a n c) (.slice none n' c')).run Tryz.prog w = .ok (.bool a.isNone) w := fun w a n c n' c' => Lib.run_eql_slice_nil w _ _ a n c n' c' Tryz.underlying80
  cases a with
  | none =>
    obtain ⟨rfl, rfl⟩ := hnil rfl
    have hl : l = [] := List.eq_nil_of_length_eq_zero hb.1
    subst hl
    go_enter Tryz.func71, Tryz.ntmps71
    go_wp2
    go_ret
    exact ⟨none, 0, rfl, World.ownsRow_nil _ _ _ _, Below.refl _ _, by simp⟩
  | some a =>
    have hB0 : Below w.heap.size w (w.alloc (.cells #[] 5)) := (Below.refl _ _).alloc (Nat.le_refl _) _
    have hb0 : Bytes (w.alloc (.cells #[] 5)) (some a) n l := (Turn.of_below (fun _ => False) hB0).bytes hb (fun _ _ _ => id)
    have hr0 : (w.alloc (.cells #[] 5)).ownsRow 0 5 1 (.slice (some ⟨w.heap.size, 0, none⟩) 0 0) 0 [] := World.ownsRow_made w #[] 0 (Nat.zero_le _) (by unfold maxLen; omega) rfl
    go_enter Tryz.func71, Tryz.ntmps71
    go_wp2_with (at_builtin; refine wpList_append_row _ rfl _ _ rfl (.slice (some ⟨w.heap.size, 0, none⟩) 0 0) 0 [] rfl hr0 (some a) n c l rfl hb0 hnil (by omega) ?_; intro v' w1 hown hgrow hat; obtain ⟨a', c', rfl, hnc, hnn⟩ := ownsRow_shape hown)
    go_ret
    simp only [Nat.zero_add, List.nil_append] at *
    have hbase : ∀ g, (Value.slice a' n c').ownBlock = some g → w.heap.size ≤ g := by
      intro g hg
      rcases hat with e | e
      · rw [e] at hg; cases hg; exact Nat.le_refl _
      · rw [e] at hg; cases hg; simp
    exact ⟨a', c', rfl, ownsRow_base hown hbase, hB0.grown hgrow (by simp) (by intro k hk; cases hk; exact Nat.le_refl _), hnc, hnn⟩

/-- what the disk answers when it is asked for a file -/
def DG.err (S : DG) (l : List UInt8) : Int := if (S.f l).isSome then 0 else 4

theorem DiskAt.look {w : World} {p b : Nat} {M : DataW Value} {S : DG} {Fp : Nat → Prop} (hd : DiskAt w p b M S Fp) (s : ByteArray) (hs : s.size ≤ maxLen) (v : Value) (hv : M.atKey (.string s.data.toList) nils = .held v) :
    (Instr.lookup 120 (.map (some b)) (.string s) true).run Tryz.prog w = .ok (.tuple #[v, .bool (S.f s.data.toList).isSome]) w := by
  obtain ⟨u, ps, hrun, hu⟩ := hd.own.look_ok keyed Tryz.underlying120 (zeroSlice w) (show rv (.slice none 0 0) = some (nils, []) from rfl) (keyOfS s hs)
  rw [hv] at hu
  have := rv_inv hu
  cases this
  rw [hd.has] at hrun
  exact hrun

set_option maxHeartbeats 1000000 in
theorem file_any (p : Nat) (S : DG) (Fp : Nat → Prop) (w : World) (s : ByteArray) (hd : IsDisk w p S Fp) (hs : s.size ≤ maxLen) :
    Calls Tryz.prog 90 #[.pointer (some ⟨p, 0, none⟩), .string s] w fun e w' => ∃ a c, e = .returned (.tuple #[.slice a ((S.f s.data.toList).getD []).length c, .int .i64 (S.err s.data.toList)]) ∧ w' = w ∧
      Bytes w a ((S.f s.data.toList).getD []).length ((S.f s.data.toList).getD []) ∧ ((S.f s.data.toList).getD []).length ≤ c ∧ (a = none → ((S.f s.data.toList).getD []).length = 0 ∧ c = 0) ∧
      ∃ b M, DiskAt w p b M S Fp ∧ M.atKey (.string s.data.toList) nils = .held (.slice a ((S.f s.data.toList).getD []).length c) := by
  obtain ⟨b, M, hd⟩ := hd
  obtain ⟨v, hv, hrow, hvo⟩ := hd.value s.data.toList
  obtain ⟨a, c, rfl, hac, hnn⟩ := ownsRow_shape hrow
  have hlk := hd.look s hs _ hv
  have c0 := hd.c0
  have hby := (ownsRow_toBytes hrow).1
  have HD : Hid (DiskAt w p b M S Fp) := hd
  have HV : Hid (M.atKey (.string s.data.toList) nils = .held (.slice a ((S.f s.data.toList).getD []).length c)) := hv
  clear hd hv
  cases hf : S.f s.data.toList with
  | none =>
    rw [hf] at hlk hby hac hnn HV hrow
    simp only [Option.getD_none, List.length_nil] at hlk hby hac hnn HV hrow
    obtain ⟨rfl, rfl⟩ : a = none ∧ c = 0 := by
      rcases hrow.2 with ⟨e, _⟩ | ⟨g, cap, cur, e, _⟩
      · cases e; exact ⟨rfl, rfl⟩
      · cases e
        have := (hvo g rfl).2.2.2
        rw [hf] at this
        cases this
    go_enter Tryz.func90, Tryz.ntmps90
    go_wp2
    go_ret2
    exact ⟨none, 0, by simp [DG.err, hf], rfl, hby, by simp, b, M, HD.out, HV.out⟩
  | some bs =>
    rw [hf] at hlk hby hac hnn HV hrow
    simp only [Option.getD_some] at hlk hby hac hnn HV hrow
    go_enter Tryz.func90, Tryz.ntmps90
    go_wp2
    go_ret2
    exact ⟨a, c, by simp [DG.err, hf], rfl, hby, hac, hnn, b, M, HD.out, HV.out⟩

/-- what a file holds; nothing, where there is none -/
def DG.bs (S : DG) (l : List UInt8) : List UInt8 := (S.f l).getD []

set_option maxHeartbeats 1000000 in
theorem read_any (p : Nat) (S : DG) (Fp : Nat → Prop) (w : World) (s : ByteArray) (hd : IsDisk w p S Fp) (hs : s.size ≤ maxLen) (hbig : (S.bs s.data.toList).length ≤ 140737488355328) :
    Calls Tryz.prog 67 #[.pointer (some ⟨p, 0, none⟩), .string s] w fun e w' => ∃ a c, e = .returned (.tuple #[.slice a (S.bs s.data.toList).length c, .int .i64 (S.err s.data.toList)]) ∧
      w'.ownsRow w.heap.size 5 1 (.slice a (S.bs s.data.toList).length c) (S.bs s.data.toList).length (cellsOf (S.bs s.data.toList)) ∧ Below w.heap.size w w' ∧ (S.bs s.data.toList).length ≤ c ∧ (a = none → (S.bs s.data.toList).length = 0 ∧ c = 0) := by
  have hx := file_any p S Fp w s hd hs
  change Calls _ _ _ _ fun e w' => ∃ a c, e = .returned (.tuple #[.slice a (S.bs s.data.toList).length c, .int .i64 (S.err s.data.toList)]) ∧ w' = w ∧ Bytes w a (S.bs s.data.toList).length (S.bs s.data.toList) ∧ (S.bs s.data.toList).length ≤ c ∧ (a = none → (S.bs s.data.toList).length = 0 ∧ c = 0) ∧ _ at hx
  generalize S.bs s.data.toList = bs at *
  generalize S.err s.data.toList = er at *
  go_enter Tryz.func67, Tryz.ntmps67
  go_wp2_with fail
  refine hx.mono ?_
  rintro e w1 ⟨a, c, rfl, rfl, hb, hc, hn, _⟩
  go_wp2_with fail
  refine (clone_any a bs.length c bs _ hb hn hbig).mono ?_
  rintro e w2 ⟨a', c', rfl, hown, hB, hnc, hnn⟩
  go_wp2
  go_ret2
  exact ⟨a', c', rfl, hown, hB, hnc, hnn⟩

set_option maxHeartbeats 1000000 in
/-- New: a disk without files -/
theorem new_any (w : World) : Calls Tryz.prog 34 #[] w fun e w' => e = .returned (.pointer (some ⟨w.heap.size + 1, 0, none⟩)) ∧ IsDisk w' (w.heap.size + 1) ⟨fun _ => none, 0, 0, false, 0⟩ (fun k => k = w.heap.size ∨ k = w.heap.size + 1) ∧ Below w.heap.size w w' := by
  have hmm := @run_makeMap Tryz.prog
  go_enter Tryz.func34, Tryz.ntmps34
  go_wp2
  go_ret
  refine ⟨rfl, ⟨w.heap.size, .map [], ?_⟩, ((Below.refl _ _).alloc (Nat.le_refl _) _).alloc (by simp) _⟩
  have hm := World.ownsMap_made w Tryz.prog 9 rv
  refine { c0 := by simp, c1 := by simp, c2 := by simp, c3 := by simp, f1 := by simp, f2 := by simp, f3 := by simp, hl := by simp, pb := by omega, own := hm.alloc _, sz := rfl, has := fun l => rfl, row := by simp, apart := by simp, fp := .inr rfl, fb := .inl rfl, lt := ?_ }
  rintro k (rfl | rfl) <;> simp
  omega

/-- what Append leaves, and what it answers -/
def DG.app (S : DG) (nm l : List UInt8) : DG × Int :=
  if nameB nm = false then (S, 2)
  else if l.length + (S.bs nm).length > 4194304 ∨ (S.f nm = none ∧ 256 ≤ S.n) then (S, 3)
  else if (S.f nm).isSome = true ∧ l = [] then (S, 0)
  else pieces (l.length + 1) S nm l

set_option maxRecDepth 20000 in
set_option maxHeartbeats 1000000 in
theorem append_any (p : Nat) (S : DG) (Fp : Nat → Prop) (w : World) (s : ByteArray) (a : Option Addr) (m c : Nat) (l : List UInt8) (hd : IsDisk w p S Fp) (hs : s.size ≤ maxLen)
    (hb : Bytes w a m l) (hmc : m ≤ c) (hnil : a = none → m = 0 ∧ c = 0) (ha : 0 < m → ∀ x, a = some x → ¬ Fp x.block ∧ x.block < w.heap.size) (hbs : (S.bs s.data.toList).length ≤ 4194304) (hn : S.n ≤ 256) (hw : S.wr < 4000000000000000000) (hm : m ≤ 9223372036854775807) :
    Calls Tryz.prog 107 #[.pointer (some ⟨p, 0, none⟩), .string s, .slice a m c] w fun e w' =>
      e = .returned (.int .i64 (S.app s.data.toList l).2) ∧ IsDisk w' p (S.app s.data.toList l).1 (grow Fp w w') ∧ Turn Fp w w' := by
  have hnm := name_any s w hs
  have hll := hb.1
  have HG : ∀ T : DG, IsDisk w p T Fp → IsDisk w p T (grow Fp w w) ∧ Turn Fp w w := fun T hT => ⟨grow_lt hT hd.lt (fun k hk => .inl hk) (Nat.le_refl _), Turn.refl _ _⟩
  cases hname : nameB s.data.toList with
  | false =>
    rw [hname] at hnm
    have e : S.app s.data.toList l = (S, 2) := by simp [DG.app, hname]
    rw [e]
    have hR := HG S hd
    clear HG hd
    go_enter Tryz.func107, Tryz.ntmps107
    go_wp2_with (go_at_call 140; refine hnm.mono ?_; rintro e w' ⟨rfl, rfl⟩)
    go_ret
    exact ⟨rfl, hR⟩
  | true =>
    rw [hname] at hnm
    obtain ⟨b, M, hD⟩ := hd
    obtain ⟨v, hv, hrow, hvo⟩ := hD.value s.data.toList
    obtain ⟨va, vc, rfl, hac, hnn⟩ := ownsRow_shape hrow
    have hlk := hD.look s hs _ hv
    have c0 := hD.c0
    have hsz := hD.own.len Tryz.underlying120 3
    rw [hD.sz] at hsz
    have hd : IsDisk w p S Fp := ⟨b, M, hD⟩
    have HL : Hid ((S.bs s.data.toList).length = ((S.f s.data.toList).getD []).length) := rfl
    have hpc := pieces_any p S Fp w s a m c l hd hb hmc hnil ha hs
    have hLL : ((S.f s.data.toList).getD []).length = (S.bs s.data.toList).length := rfl
    rw [hLL] at hlk hpc
    clear hv hrow hvo hac hnn hD
    generalize hL : (S.bs s.data.toList).length = L at *
    by_cases hlong : m + L > 4194304
    · have i1 : (4194304 : Int) - L < m := by omega
      have e : S.app s.data.toList l = (S, 3) := by
        unfold DG.app
        rw [if_neg (by simp [hname]), if_pos (.inl (by rw [hL]; omega))]
      rw [e]
      have hR := HG S hd
      clear HG hd hpc
      go_enter Tryz.func107, Tryz.ntmps107
      go_wp2_with (go_at_call 140; refine hnm.mono ?_; rintro e w' ⟨rfl, rfl⟩)
      go_ret
      exact ⟨rfl, hR⟩
    · have i1 : ¬ (4194304 : Int) - L < m := by omega
      have hi1 : (m : Int) ≤ 4194304 - L := by omega
      cases hf : S.f s.data.toList with
      | none =>
        rw [hf] at hlk
        simp only [Option.isSome_none] at hlk
        by_cases hfull : 256 ≤ S.n
        · have i2 : (256 : Int) ≤ (S.n : Int) := by omega
          have e : S.app s.data.toList l = (S, 3) := by
            unfold DG.app
            rw [if_neg (by simp [hname]), if_pos (.inr ⟨hf, hfull⟩)]
          rw [e]
          have hR := HG S hd
          clear HG hd hpc
          go_enter Tryz.func107, Tryz.ntmps107
          go_wp2_with (go_at_call 140; refine hnm.mono ?_; rintro e w' ⟨rfl, rfl⟩)
          go_ret
          exact ⟨rfl, hR⟩
        · have i2 : ¬ (256 : Int) ≤ (S.n : Int) := by omega
          have e : S.app s.data.toList l = pieces (m + 1) S s.data.toList l := by
            unfold DG.app
            rw [if_neg (by simp [hname]), if_neg (by rw [hL, hf]; simp; omega), if_neg (by simp [hf]), hll]
          rw [e]
          have hR := hpc (by omega) (by unfold maxLen; omega) (by omega)
          clear HG hd hpc
          go_enter Tryz.func107, Tryz.ntmps107
          go_wp2_with (first | (go_at_call 140; refine hnm.mono ?_; rintro e w' ⟨rfl, rfl⟩) | (go_at_call 141; refine hR.mono ?_; rintro e w' ⟨rfl, hR2⟩))
          go_ret
          exact ⟨rfl, hR2⟩
      | some bs =>
        rw [hf] at hlk
        simp only [Option.isSome_some] at hlk
        by_cases h0 : m = 0
        · have e : S.app s.data.toList l = (S, 0) := by
            unfold DG.app
            rw [if_neg (by simp [hname]), if_neg (by rw [hL, hf]; simp; omega), if_pos ⟨by simp [hf], List.eq_nil_of_length_eq_zero (by omega)⟩]
          rw [e]
          have hR := HG S hd
          subst h0
          clear HG hd hpc
          go_enter Tryz.func107, Tryz.ntmps107
          go_wp2_with (go_at_call 140; refine hnm.mono ?_; rintro e w' ⟨rfl, rfl⟩)
          go_ret
          exact ⟨rfl, hR⟩
        · have i2 : ¬ (m : Int) = 0 := by omega
          have e : S.app s.data.toList l = pieces (m + 1) S s.data.toList l := by
            unfold DG.app
            rw [if_neg (by simp [hname]), if_neg (by rw [hL, hf]; simp; omega), if_neg (by intro h; exact h0 (by rw [← hll, h.2]; rfl)), hll]
          rw [e]
          have hR := hpc (by omega) (by unfold maxLen; omega) (by omega)
          clear HG hd hpc
          go_enter Tryz.func107, Tryz.ntmps107
          go_wp2_with (first | (go_at_call 140; refine hnm.mono ?_; rintro e w' ⟨rfl, rfl⟩) | (go_at_call 141; refine hR.mono ?_; rintro e w' ⟨rfl, hR2⟩))
          go_ret
          exact ⟨rfl, hR2⟩

end Go.Proofs.YtncagdfbgpdhfaaGreat
