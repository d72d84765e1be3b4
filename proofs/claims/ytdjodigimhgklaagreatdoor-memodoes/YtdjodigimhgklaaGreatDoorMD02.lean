import Derived.Test.YtdjodigimhgklaaGreatDoorMD01
import Derived.WalkMore
/- The walk of the closure that puts a piece behind a file's end. -/
namespace Go.Proofs.YtdjodigimhgklaaGreatDoor
open Go.RowKit Go.Maps

/-- a file has these bytes more -/
def DG.add (S : DG) (l bs : List UInt8) : DG := S.set l ((S.f l).getD [] ++ bs)

set_option maxRecDepth 20000 in
set_option maxHeartbeats 2000000 in
theorem piece_any (p : Nat) (S : DG) (Fp : Nat → Prop) (w : World) (s : ByteArray) (Bd Bn Bp : Nat) (a : Option Addr) (m c : Nat) (l : List UInt8) (hd : IsDisk w p S Fp)
    (hbd : w.cell? ⟨Bd, 0, none⟩ = some (.pointer (some ⟨p, 0, none⟩))) (hbn : w.cell? ⟨Bn, 0, none⟩ = some (.string s)) (hbp : w.cell? ⟨Bp, 0, none⟩ = some (.slice a m c))
    (nd : ¬ Fp Bd) (nn : ¬ Fp Bn) (np : ¬ Fp Bp) (hb : Bytes w a m l) (hnil : a = none → m = 0 ∧ c = 0) (hs : s.size ≤ maxLen) (hlen : ((S.f s.data.toList).getD []).length + m ≤ 140737488355328) (hn : S.n < maxLen) :
    Calls Tryz.prog 96 #[.pointer (some ⟨Bd, 0, none⟩), .pointer (some ⟨Bn, 0, none⟩), .pointer (some ⟨Bp, 0, none⟩)] w fun e w' =>
      e = .returned (.tuple #[]) ∧ IsDisk w' p (S.add s.data.toList l) (grow Fp w w') ∧ Turn Fp w w' := by
  obtain ⟨b, M, hd⟩ := hd
  obtain ⟨v, hv, hrow, hvo⟩ := hd.value s.data.toList
  have c0 := hd.c0
  have hLk : ∀ W : World, W.heap[b]? = w.heap[b]? → (Instr.lookup 83 (.map (some b)) (.string s) false).run Tryz.prog W = .ok v W := by
    intro W hW
    have hown : W.ownsMap Tryz.prog 9 rv b (size M) M := by
      obtain ⟨es, clock, hb, r⟩ := hd.own
      exact ⟨es, clock, hW.trans hb, r⟩
    obtain ⟨u, ps, hrun, hu⟩ := hown.lookup keyed Tryz.underlying83 (zeroSlice W) (show rv (.slice none 0 0) = some (nils, []) from rfl) (keyOfS s hs)
    rw [hv] at hu
    have := rv_inv hu
    cases this
    exact hrun
  have hL0 := hLk w.drew rfl
  have ld := World.block_lt_of_cell? w _ hbd
  have ln := World.block_lt_of_cell? w _ hbn
  have lp := World.block_lt_of_cell? w _ hbp
  have l0 := World.block_lt_of_cell? w _ c0
  have hvn : ∀ g, v.ownBlock = some g → g ≠ Bd ∧ g ≠ Bn ∧ g ≠ Bp ∧ g ≠ p ∧ g ≠ b := fun g hg => ⟨fun e => nd (e ▸ (hvo g hg).1), fun e => nn (e ▸ (hvo g hg).1), fun e => np (e ▸ (hvo g hg).1), (hvo g hg).2.1, (hvo g hg).2.2.1⟩
  have hput : ∀ v' w1, w1.ownsRow 0 5 1 v' (((S.f s.data.toList).getD []).length + m) (cellsOf ((S.f s.data.toList).getD []) ++ cellsOf l) → w.drew.grownBy w1 v.ownBlock → (v'.ownBlock = v.ownBlock ∨ v'.ownBlock = some w.drew.heap.size) →
      ∃ w2, (Instr.mapUpdate 83 (.map (some b)) (.string s) v').run Tryz.prog w1 = .ok () w2 ∧ w2.cell? ⟨p, 0, none⟩ = some (.map (some b)) ∧ Hid (IsDisk w2 p (S.add s.data.toList l) (grow Fp w w2) ∧ Turn Fp w w2) := by
    intro v' w1 h1 h2 h3
    rw [← cellsOf_append, show ((S.f s.data.toList).getD []).length + m = ((S.f s.data.toList).getD [] ++ l).length by rw [List.length_append, hb.1]] at h1
    obtain ⟨w2, hr, hx, hT⟩ := hd.put s hs v v' _ hv hvo ⟨h2.os, h2.tape, h2.output, h2.size, h2.block⟩ h1 (hd.free_append _ v v' hv hvo h3) hn
    exact ⟨w2, hr, hx.c0, ⟨b, _, hx⟩, hT⟩
  have hbD : Bytes w.drew a m l := ⟨hb.1, hb.2⟩
  go_enter Tryz.func96, Tryz.ntmps96
  go_wp2_with fail
  go_region_held3 (fun W => W.cell? ⟨Bd, 0, none⟩ = some (.pointer (some ⟨p, 0, none⟩)) ∧ W.cell? ⟨Bn, 0, none⟩ = some (.string s) ∧ W.cell? ⟨Bp, 0, none⟩ = some (.slice a m c) ∧ W.cell? ⟨p, 0, none⟩ = some (.map (some b)))
    (first
      | (go_split_ands
         refine ⟨by go_keep, by go_keep, by go_keep, by go_keep⟩)
      | (go_split_ands
         exact ⟨(hgrow.cell hbd (fun e => (hvn _ e.symm).1 rfl)), (hgrow.cell hbn (fun e => (hvn _ e.symm).2.1 rfl)), (hgrow.cell hbp (fun e => (hvn _ e.symm).2.2.1 rfl)), (hgrow.cell c0 (fun e => (hvn _ e.symm).2.2.2.1 rfl))⟩)
      | (go_split_ands
         exact ⟨hfin.out.2.cell hbd nd, hfin.out.2.cell hbn nn, hfin.out.2.cell hbp np, hp2⟩))
    ((refine step_append_row _ (by rfl) _ _ (by rfl) v _ _ (by rfl) hrow.drew a m c l (by rfl) hbD hnil hlen ?_; intro v' w1 hown1 hgrow hat; obtain ⟨w2, hupd, hp2, hfin⟩ := hput v' w1 hown1 hgrow hat))
  go_wp2
  go_end0
  exact ⟨rfl, hfin.out⟩

end Go.Proofs.YtdjodigimhgklaaGreatDoor

/- The walk of the loop that puts bytes behind a file's end piece by piece. -/
namespace Go.Proofs.YtdjodigimhgklaaGreatDoor
open Go.RowKit Go.Maps

/-- how long a slice is -/
def lenOf : Value → Nat
  | .slice _ n _ => n
  | _ => 0

/-- what is left when bytes are put behind a file's end by raw writes, and what is answered -/
def pieces : Nat → DG → List UInt8 → List UInt8 → DG × Int
  | 0, S, _, _ => (S, 0)
  | k + 1, S, nm, l => if S.can = true then (if l.length ≤ 32 then (S.done.add nm l, 0) else pieces k (S.done.add nm (l.take 32)) nm (l.drop 32)) else (S, 6)

theorem pieces_more : ∀ (k j : Nat) (S : DG) (nm l : List UInt8), l.length + 1 ≤ k → l.length + 1 ≤ j → pieces k S nm l = pieces j S nm l := by
  intro k
  induction k with
  | zero => intro j S nm l h; omega
  | succ k ih =>
    intro j S nm l h hj
    obtain ⟨j, rfl⟩ : ∃ i, j = i + 1 := ⟨j - 1, by omega⟩
    rw [pieces]
    conv => rhs; rw [pieces]
    split
    · split
      · rfl
      · rename_i h32
        exact ih j _ _ (l.drop 32) (by simp; omega) (by simp; omega)
    · rfl
theorem pieces_fuel (k : Nat) (S : DG) (nm l : List UInt8) (h : l.length + 1 ≤ k) : pieces k S nm l = pieces (l.length + 1) S nm l := pieces_more k _ S nm l h (Nat.le_refl _)

theorem call34 (caps : Array Value) (w : World) : (callFunc 96 caps).run Tryz.prog w = .ok (.enter 96 caps) w := by
  have hf : Tryz.prog.funcs[96]? = some Tryz.f96 := Tryz.func96
  have h1 : ¬ Tryz.f96.name = "runtime.NumGoroutine" := by decide +kernel
  have h3 : Tryz.f96.body.isNone = false := by kernel_rfl
  have h2 : ¬ Tryz.f96.body = Option.none := fun e => by rw [e] at h3; cases h3
  simp [callFunc, go_sem, hf, h1, h2]

theorem grow_lt {w w' : World} {p : Nat} {S : DG} {Fp Gp : Nat → Prop} (h : IsDisk w' p S Gp) (hF : ∀ k, Fp k → k < w.heap.size) (hG : ∀ k, Gp k → Fp k ∨ w.heap.size ≤ k) (hs : w.heap.size ≤ w'.heap.size) : IsDisk w' p S (grow Fp w w') :=
  h.wide (fun k hk => (hG k hk).elim .inl (fun h1 => .inr ⟨h1, h.lt k hk⟩)) (fun k hk => hk.elim (fun h1 => Nat.lt_of_lt_of_le (hF k h1) hs) (fun h1 => h1.2))

theorem IsDisk.fp {w : World} {p : Nat} {S : DG} {Fp : Nat → Prop} (h : IsDisk w p S Fp) : Fp p := by
  obtain ⟨b, M, h⟩ := h
  exact h.fp

/-- one raw write that puts a piece behind a file's end, or does not -/
theorem rawPiece (p : Nat) (S : DG) (Gp : Nat → Prop) (wr : World) (s : ByteArray) (Bd Bn : Nat) (a : Option Addr) (q c : Nat) (l : List UInt8) (hd : IsDisk wr p S Gp)
    (k0 : wr.cell? ⟨Bd, 0, none⟩ = some (.pointer (some ⟨p, 0, none⟩))) (k1 : wr.cell? ⟨Bn, 0, none⟩ = some (.string s)) (nd : ¬ Gp Bd) (nn : ¬ Gp Bn)
    (hb : Bytes wr a q l) (hnil : a = none → q = 0 ∧ c = 0) (ha : 0 < q → ∀ x, a = some x → ¬ Gp x.block) (hs : s.size ≤ maxLen) (hlen : ((S.f s.data.toList).getD []).length + q ≤ 140737488355328) (hn : S.n < maxLen) (hw : S.wr < 4611686018427387904) :
    Calls Tryz.prog 95 #[.pointer (some ⟨p, 0, none⟩), .func (.func 96) #[] #[.pointer (some ⟨Bd, 0, none⟩), .pointer (some ⟨Bn, 0, none⟩), .pointer (some ⟨wr.heap.size, 0, none⟩)]] (wr.alloc (.cells #[.slice a q c] 33)) fun e w' =>
      e = .returned (.int .i64 (if S.can = true then 0 else 6)) ∧ IsDisk w' p (if S.can = true then S.done.add s.data.toList l else S) (grow Gp wr w') ∧ Turn Gp wr w' := by
  have hBa : Below wr.heap.size wr (wr.alloc (.cells #[.slice a q c] 33)) := (Below.refl _ _).alloc (Nat.le_refl _) _
  have hda := hd.below hBa
  have hTa : Turn Gp wr (wr.alloc (.cells #[.slice a q c] 33)) := Turn.of_below _ hBa
  have hlt := hd.lt
  by_cases hc : S.can = true
  · simp only [hc, if_true]
    refine (raw_done 96 p _ S Gp _ (fun w' => IsDisk w' p (S.done.add s.data.toList l) (grow Gp wr w') ∧ Turn Gp wr w') (call34 _) hda hw hc ?_).mono fun e w' ⟨he, hR⟩ => ⟨he, hR⟩
    intro w1 _ hd1 hT1 hs1
    have hp := hd.fp
    have ne0 : ¬ Bd = p := fun e => nd (e ▸ hp)
    have ne1 : ¬ Bn = p := fun e => nn (e ▸ hp)
    have ne2 : ¬ wr.heap.size = p := fun e => by have := hlt p hp; omega
    have c0 : w1.cell? ⟨Bd, 0, none⟩ = some (.pointer (some ⟨p, 0, none⟩)) := hT1.cell (hTa.cell k0 nd) ne0
    have c1 : w1.cell? ⟨Bn, 0, none⟩ = some (.string s) := hT1.cell (hTa.cell k1 nn) ne1
    have c2 : w1.cell? ⟨wr.heap.size, 0, none⟩ = some (.slice a q c) := hT1.cell (by simp) ne2
    have hb1 : Bytes w1 a q l := hT1.bytes (hTa.bytes hb ha) (fun h0 x hx e => ha h0 x hx (e ▸ hp))
    have hsz : w1.heap.size = wr.heap.size + 1 := by rw [hs1]; simp
    refine (piece_any p S.done Gp w1 s Bd Bn wr.heap.size a q c l hd1 c0 c1 c2 nd nn (fun h => by have := hlt _ h; omega) hb1 hnil hs hlen hn).mono fun e w' ⟨he, hd', hT'⟩ => ⟨he, ?_⟩
    have hT2 : Turn Gp wr w' := (hTa.trans hT1 (fun i _ h => by subst h; exact hp)).trans hT' (fun _ _ h => h)
    exact ⟨grow_lt hd' hlt (fun k hk => hk.elim .inl (fun h => .inr (by omega))) hT2.size, hT2⟩
  · simp only [hc, if_false, Bool.false_eq_true]
    refine (raw_cut 96 p _ S Gp _ hda (by simpa using hc)).mono fun e w' ⟨he, hw'⟩ => ⟨he, ?_⟩
    subst hw'
    exact ⟨grow_lt hda hlt (fun k hk => .inl hk) hTa.size, hTa⟩

set_option maxRecDepth 20000 in
set_option maxHeartbeats 2000000 in
theorem pieces_any (p : Nat) (S : DG) (Fp : Nat → Prop) (w : World) (s : ByteArray) (a : Option Addr) (m c : Nat) (l : List UInt8) (hd : IsDisk w p S Fp)
    (hb : Bytes w a m l) (hmc : m ≤ c) (hnil : a = none → m = 0 ∧ c = 0) (ha : 0 < m → ∀ x, a = some x → ¬ Fp x.block ∧ x.block < w.heap.size) (hs : s.size ≤ maxLen) (hlen : ((S.f s.data.toList).getD []).length + m ≤ 140737488355328) (hn : S.n + 1 < maxLen) (hw : S.wr + m < 4611686018427387904) :
    Calls Tryz.prog 56 #[.pointer (some ⟨p, 0, none⟩), .string s, .slice a m c] w fun e w' =>
      e = .returned (.int .i64 (pieces (m + 1) S s.data.toList l).2) ∧ IsDisk w' p (pieces (m + 1) S s.data.toList l).1 (grow Fp w w') ∧ Turn Fp w w' := by
  have hdlt := hd.lt
  obtain ⟨w0, hw0⟩ : ∃ w0, w0 = (w.alloc (.cells #[.pointer (some ⟨p, 0, none⟩)] 26)).alloc (.cells #[.string s] 9) := ⟨_, rfl⟩
  have hB0 : Below w.heap.size w w0 := by rw [hw0]; exact ((Below.refl _ _).alloc (Nat.le_refl _) _).alloc (by simp) _
  have hsz0 : w0.heap.size = w.heap.size + 2 := by rw [hw0]; simp
  have k0 : w0.cell? ⟨w.heap.size, 0, none⟩ = some (.pointer (some ⟨p, 0, none⟩)) := by rw [hw0]; simp
  have k1 : w0.cell? ⟨w.heap.size + 1, 0, none⟩ = some (.string s) := by rw [hw0]; simp
  have hd0 := hd.below hB0
  have hb0 : Bytes w0 a m l := (Turn.of_below (fun _ => False) hB0).bytes hb (fun _ _ _ => id)
  go_enter Tryz.func56, Tryz.ntmps56
  go_wp2_with fail
  rw [← hw0]
  clear hw0 hd hb
  go_step3
  go_wp2_with fail
  go_step3
  go_wp2_with fail
  go_loopw [2] (fun v wr => ∃ (S' : DG) (a' : Option Addr) (m' c' : Nat) (l' : List UInt8) (Gp : Nat → Prop), v = .slice a' m' c' ∧ Hid (IsDisk wr p S' Gp) ∧ Hid (∀ k, Gp k → Fp k ∨ w.heap.size + 2 ≤ k) ∧ Turn Fp w wr ∧
      wr.cell? ⟨w.heap.size, 0, none⟩ = some (.pointer (some ⟨p, 0, none⟩)) ∧ wr.cell? ⟨w.heap.size + 1, 0, none⟩ = some (.string s) ∧ Hid (Bytes wr a' m' l') ∧ m' ≤ c' ∧ Hid (a' = none → m' = 0 ∧ c' = 0) ∧ Hid (0 < m' → ∀ x, a' = some x → ¬ Fp x.block ∧ x.block < w.heap.size) ∧
      Hid (((S'.f s.data.toList).getD []).length + m' ≤ 140737488355328) ∧ Hid (S'.n + 1 < maxLen ∨ ((S'.f s.data.toList).isSome = true ∧ S'.n < maxLen)) ∧ Hid (S'.wr + m' < 4611686018427387904) ∧ Hid (pieces (m' + 1) S' s.data.toList l' = pieces (m + 1) S s.data.toList l))
    (fun v _ => lenOf v)
  case atStart =>
    exact ⟨S, a, m, c, l, Fp, rfl, hd0, fun k hk => .inl hk, Turn.of_below _ hB0, k0, k1, hb0, hmc, hnil, ha, hlen, .inl hn, hw, rfl⟩
  case round =>
    clear hd0 hB0 hb0 k0 k1 hn hw hlen hmc hnil ha hsz0
    obtain ⟨S', a', m', c', l', Gp, rfl, HD, HG, hT, k0, k1, HB, hmc', HN, HA, HL, Hn, Hw, HP⟩ := hrel
    have i0 : (0 : Int) ≤ (m' : Int) := by omega
    have i1 : (m' : Int) ≤ (c' : Int) := by omega
    have q0 := fun o => (World.grownBy_alloc wr o none).cell k0 (by simp)
    have q1 := fun o => (World.grownBy_alloc wr o none).cell k1 (by simp)
    have HX := fun (q : Nat) (hq : q ≤ m') => rawPiece p S' Gp wr s w.heap.size (w.heap.size + 1) a' q c' (l'.take q) HD.out k0 k1 (fun h => (HG.out _ h).elim (fun h1 => by have := hdlt _ h1; omega) (fun h1 => by omega)) (fun h => (HG.out _ h).elim (fun h1 => by have := hdlt _ h1; omega) (fun h1 => by omega))
      (HB.out.take q hq) (fun h => ⟨by have := (HN.out h).1; omega, (HN.out h).2⟩) (fun h0 x hx h => (HG.out _ h).elim (HA.out (by omega) x hx).1 (fun h1 => by have := (HA.out (by omega) x hx).2; omega)) hs (by have := HL.out; omega) (Hn.out.elim (fun h => by omega) (fun h => h.2)) (by have := Hw.out; omega)
    have hll := HB.out.1
    have HE : Hid (∀ w', (IsDisk w' p (pieces (m + 1) S s.data.toList l).1 (grow Gp wr w') ∧ Turn Gp wr w') → IsDisk w' p (pieces (m + 1) S s.data.toList l).1 (grow Fp w w') ∧ Turn Fp w w') := fun w' ⟨h1, h2⟩ => by
      have hT2 : Turn Fp w w' := hT.trans h2 (fun i hi h => (HG.out i h).elim id (fun h1 => by omega))
      exact ⟨grow_lt h1 hdlt (fun k hk => hk.elim (fun h => (HG.out k h).imp id (fun h1 => by omega)) (fun h => .inr (by have := hT.size; omega))) hT2.size, hT2⟩
    by_cases hcan : S'.can = true
    · by_cases hm : m' ≤ 32
      · have i2 : (m' : Int) ≤ 32 := by omega
        have hx := HX m' (Nat.le_refl _)
        rw [List.take_of_length_le (by omega)] at hx
        simp only [hcan, if_true] at hx
        have HF : Hid (pieces (m + 1) S s.data.toList l = (S'.done.add s.data.toList l', 0)) := by
          show _ = _
          rw [← HP.out, pieces, if_pos hcan, if_pos (by omega)]
        rw [HF.out] at HE
        clear HX HD HG HB HN HA HL Hn Hw HP
        by_cases hc : c' = m'
        · subst hc
          go_wp2_with fail
          refine hx.mono ?_
          rintro e w2 ⟨rfl, hR⟩
          go_wp2
          try rw [Exit.noGoto_ret]
          go_ret
          rw [HF.out]
          exact ⟨rfl, HE.out _ hR⟩
        · go_wp2_with fail
          refine hx.mono ?_
          rintro e w2 ⟨rfl, hR⟩
          go_wp2
          try rw [Exit.noGoto_ret]
          go_ret
          rw [HF.out]
          exact ⟨rfl, HE.out _ hR⟩
      · have i2 : ¬ (m' : Int) ≤ 32 := by omega
        have i3 : ¬ c' = 32 := by omega
        have hx := HX 32 (by omega)
        simp only [hcan, if_true] at hx
        go_wp2_with fail
        refine hx.mono ?_
        rintro e w2 ⟨rfl, hR⟩
        go_wp2
        have hm0 : 0 < m' := by omega
        obtain ⟨bb, off, rfl, hcell⟩ := HB.out.2 hm0
        have hA := HA.out hm0 ⟨bb, off, none⟩ rfl
        have hnG : ¬ Gp bb := fun h => (HG.out _ h).elim hA.1 (fun h1 => by have := hA.2; simp only at this; omega)
        have hT2 : Turn Fp w w2 := hT.trans hR.2 (fun i hi h => (HG.out i h).elim id (fun h1 => by omega))
        have nd : ¬ Gp w.heap.size := fun h => (HG.out _ h).elim (fun h1 => by have := hdlt _ h1; omega) (fun h1 => by omega)
        have nn : ¬ Gp (w.heap.size + 1) := fun h => (HG.out _ h).elim (fun h1 => by have := hdlt _ h1; omega) (fun h1 => by omega)
        refine ⟨⟨_, _, _, _, l'.drop 32, _, rfl, hR.1, ?_, hT2, hR.2.cell k0 nd, hR.2.cell k1 nn, ?_, by omega, ?_, ?_, ?_, ?_, ?_, ?_⟩, ?_⟩
        · intro k hk
          exact hk.elim (fun h => HG.out k h) (fun h => .inr (by have := World.block_lt_of_cell? wr _ k1; simp only at this; omega))
        · refine ⟨by simp; omega, fun h0 => ⟨bb, off + 32, rfl, fun i hi => ?_⟩⟩
          rw [bt_drop]
          have := hR.2.cell (hcell (32 + i) (by omega)) hnG
          rw [show off + 32 + i = off + (32 + i) by omega]
          exact this
        · intro h; simp at h
        · intro _ x hx
          simp only [Option.map_some, Option.some.injEq] at hx
          subst hx
          exact hA
        · have := HL.out
          show _ ≤ _
          simp only [DG.add, DG.set, DG.done, if_true, Option.getD_some, List.length_append, List.length_take]
          omega
        · refine .inr ⟨by simp [DG.add, DG.set], ?_⟩
          show (if (S'.f s.data.toList).isSome = true then S'.n else S'.n + 1) < maxLen
          rcases Hn.out with h | h
          · split <;> omega
          · rw [if_pos h.1]; exact h.2
        · have := Hw.out
          show _ < _
          simp only [DG.add, DG.set, DG.done]
          omega
        · show _ = _
          rw [← HP.out, pieces_fuel (m' + 1) _ _ l' (by omega), show l'.length + 1 = (m' - 1 + 1) + 1 by omega]
          conv => rhs; rw [pieces, if_pos hcan, if_neg (by omega)]
          rw [pieces_fuel (m' - 1 + 1) _ _ (l'.drop 32) (by simp; omega)]
          congr 1
          simp
          omega
        · show m' - 32 < m'
          omega
    · have HF : Hid (pieces (m + 1) S s.data.toList l = (S', 6)) := by
        show _ = _
        rw [← HP.out, pieces, if_neg hcan]
      rw [HF.out] at HE
      by_cases hm : m' ≤ 32
      · have i2 : (m' : Int) ≤ 32 := by omega
        have hx := HX m' (Nat.le_refl _)
        simp only [hcan, if_false, Bool.false_eq_true] at hx
        clear HX HD HG HB HN HA HL Hn Hw HP
        by_cases hc : c' = m'
        · subst hc
          go_wp2_with fail
          refine hx.mono ?_
          rintro e w2 ⟨rfl, hR⟩
          go_wp2
          try rw [Exit.noGoto_ret]
          go_ret
          rw [HF.out]
          exact ⟨rfl, HE.out _ hR⟩
        · go_wp2_with fail
          refine hx.mono ?_
          rintro e w2 ⟨rfl, hR⟩
          go_wp2
          try rw [Exit.noGoto_ret]
          go_ret
          rw [HF.out]
          exact ⟨rfl, HE.out _ hR⟩
      · have i2 : ¬ (m' : Int) ≤ 32 := by omega
        have i3 : ¬ c' = 32 := by omega
        have hx := HX 32 (by omega)
        simp only [hcan, if_false, Bool.false_eq_true] at hx
        clear HX HD HG HB HN HA HL Hn Hw HP
        go_wp2_with fail
        refine hx.mono ?_
        rintro e w2 ⟨rfl, hR⟩
        go_wp2
        try rw [Exit.noGoto_ret]
        go_ret
        rw [HF.out]
        exact ⟨rfl, HE.out _ hR⟩

end Go.Proofs.YtdjodigimhgklaaGreatDoor
