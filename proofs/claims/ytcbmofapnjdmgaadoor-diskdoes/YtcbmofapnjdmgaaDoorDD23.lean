import Derived.Test.YtcbmofapnjdmgaaDoorDD21
import Derived.Deep.RegionLaw
/- The walk of the reference disk's Append. -/
namespace Go.Proofs.YtcbmofapnjdmgaaDoor
open Go.RowKit Go.Maps

theorem set_set (S : DG) (nm x y : List UInt8) : (S.set nm x).set nm y = S.set nm y := by
  unfold DG.set
  simp only [if_true, Option.isSome_some]
  congr 1
  funext z
  split <;> rfl

/-- the loop's measure -/
def meas (v u : Value) : Nat := lenOf v + (match u with | .bool true => 1 | _ => 0)

/-- what is still to be done -/
def Doing (m' : Nat) (first : Bool) (kk : Int) (S' : DG) (nm l' : List UInt8) (T : DG × Int) : Prop :=
  ((0 < m' ∨ (first = true ∧ kk = -1)) ∧ pieces (m' + 1) S' nm l' = T) ∨ (m' = 0 ∧ ¬ (first = true ∧ kk = -1) ∧ T = (S', 0))

/-- where the loop of Append stands -/
def RS (w wr : World) (p : Nat) (S' : DG) (s : ByteArray) (kk : Int) (Fp : Nat → Prop) : Prop :=
  ∃ fs is left Gp, RefAt wr p fs is S'.wr left Gp ∧ Match S' is left ∧ (∀ k, Gp k → Fp k ∨ w.heap.size ≤ k) ∧ Turn Fp w wr ∧ ((kk = -1 ∧ S'.f s.data.toList = none) ∨ ∃ (k : Nat) (i : It), kk = (k : Int) ∧ is[k]? = some i ∧ i.name = s)

theorem RS.ref {w wr : World} {p : Nat} {S' : DG} {s : ByteArray} {kk : Int} {Fp : Nat → Prop} (h : RS w wr p S' s kk Fp) (hlt : ∀ k, Fp k → k < w.heap.size) : IsRef wr p S' (grow Fp w wr) ∧ Turn Fp w wr := by
  obtain ⟨fs, is, left, Gp, h1, h2, h3, h4, _⟩ := h
  exact ⟨IsRef.grow ⟨fs, is, left, h1, h2⟩ hlt h3 h4.size, h4⟩

/-- how the loop of Append stands -/
def LR (w0 : World) (p : Nat) (s : ByteArray) (Fp : Nat → Prop) (T : DG × Int) (v2 v7 v8 : Value) (wr : World) : Prop :=
  ∃ (S' : DG) (kk : Int) (a' : Option Addr) (m' c' : Nat) (l' : List UInt8) (first : Bool), v2 = .slice a' m' c' ∧ v7 = .int .i64 kk ∧ v8 = .bool first ∧ m' ≤ c' ∧ Hid (RS w0 wr p S' s kk Fp) ∧ Hid (Bytes wr a' m' l') ∧
    Hid (((S'.f s.data.toList).getD []).length + m' ≤ 140737488355328 ∧ S'.n ≤ 256 ∧ (kk = -1 → S'.n < 256) ∧ S'.wr + m' < 4611686018427387904 ∧ S'.left ≤ 9223372036854775807 ∧ (first = true → S'.wr + 1 < 4611686018427387904)) ∧ Hid (0 < m' → ∀ x, a' = some x → ¬ Fp x.block ∧ x.block < w0.heap.size) ∧ Hid (a' = none → m' = 0 ∧ c' = 0) ∧
    Hid (Doing m' first kk S' s.data.toList l' T)

/-- what a round does to the disk -/
theorem round_set (S' S3 : DG) (s : ByteArray) (x bs3 : List UInt8) (h3 : S3 = S'.done ∨ (S3 = S'.done.set s.data.toList [] ∧ S'.f s.data.toList = none)) (hb : S3.bs s.data.toList = bs3) : S3.set s.data.toList (bs3 ++ x) = S'.done.add s.data.toList x ∧ bs3.length = ((S'.f s.data.toList).getD []).length ∧ (S3.f s.data.toList).isSome = (S3.f s.data.toList).isSome := by
  refine ⟨?_, ?_, rfl⟩
  · rcases h3 with rfl | ⟨rfl, hn⟩
    · rw [← hb]; rfl
    · rw [set_set, ← hb]
      have : (S'.done.set s.data.toList []).bs s.data.toList = [] := by simp [DG.bs, DG.set]
      rw [this]
      unfold DG.add
      have e : S'.done.f s.data.toList = none := hn
      rw [e]
      rfl
  · rcases h3 with rfl | ⟨rfl, hn⟩
    · rw [← hb]; rfl
    · rw [← hb, hn]; simp [DG.bs, DG.set]

theorem LR.next {w0 wE : World} {p : Nat} {s : ByteArray} {Fp : Nat → Prop} {T : DG × Int} {S' : DG} {kk : Int} {m' : Nat} {l' : List UInt8} (nn : Nat) (S4 : DG) (k3 : Nat) (a'' : Option Addr) (c'' : Nat)
    (hS4 : S4 = S'.done.add s.data.toList (l'.take nn)) (hcan : S'.can = true) (hll : l'.length = m') (hnn : (m' ≤ 32 ∧ nn = m') ∨ (32 < m' ∧ nn = 32)) (hpc : pieces (m' + 1) S' s.data.toList l' = T) (hE : RS w0 wE p S4 s (k3 : Int) Fp) (hB : Bytes wE a'' (m' - nn) (l'.drop nn)) (hc : m' - nn ≤ c'')
    (hD : ((S'.f s.data.toList).getD []).length + m' ≤ 140737488355328 ∧ S'.n ≤ 256 ∧ (kk = -1 → S'.n < 256) ∧ S'.wr + m' < 4611686018427387904 ∧ S'.left ≤ 9223372036854775807) (hk : kk = -1 ∨ (S'.f s.data.toList).isSome = true)
    (hA : 0 < m' - nn → ∀ x, a'' = some x → ¬ Fp x.block ∧ x.block < w0.heap.size) (hN : a'' = none → m' - nn = 0 ∧ c'' = 0) (hw1 : S'.wr + 1 + (m' - nn) < 4611686018427387904) : LR w0 p s Fp T (.slice a'' (m' - nn) c'') (.int .i64 (k3 : Int)) (.bool false) wE := by
  subst hS4
  have e1 : ((S'.done.add s.data.toList (l'.take nn)).f s.data.toList).getD [] = (S'.f s.data.toList).getD [] ++ l'.take nn := by simp [DG.add, DG.set, DG.done]
  have e2 : (S'.done.add s.data.toList (l'.take nn)).n = if (S'.f s.data.toList).isSome = true then S'.n else S'.n + 1 := rfl
  have e3 : (S'.done.add s.data.toList (l'.take nn)).wr = S'.wr + 1 := rfl
  have e4 : (S'.done.add s.data.toList (l'.take nn)).left ≤ S'.left := by
    show (if S'.cut = true then S'.left - 1 else S'.left) ≤ S'.left
    split <;> omega
  refine ⟨_, _, _, _, _, l'.drop nn, false, rfl, rfl, rfl, hc, hE, hB, ⟨?_, ?_, ?_, ?_, ?_, by simp⟩, hA, hN, ?_⟩
  · rw [e1, List.length_append, List.length_take]
    rcases hnn with ⟨h1, rfl⟩ | ⟨h1, rfl⟩ <;> omega
  · rw [e2]
    have := hD.2.2.1
    have := hD.2.1
    split
    · omega
    · rename_i h
      rcases hk with h' | h'
      · have := hD.2.2.1 h'; omega
      · exact absurd h' h
  · intro h
    omega
  · rw [e3]; omega
  · have := hD.2.2.2.2; omega
  · rcases hnn with ⟨h1, rfl⟩ | ⟨h1, rfl⟩
    · refine .inr ⟨by omega, by simp, ?_⟩
      rw [← hpc, pieces, if_pos hcan, if_pos (by omega), List.take_of_length_le (by omega)]
    · refine .inl ⟨.inl (by omega), ?_⟩
      rw [← hpc, pieces_fuel (m' + 1) _ _ l' (by omega), show l'.length + 1 = (m' - 1 + 1) + 1 by omega]
      conv => rhs; rw [pieces, if_pos hcan, if_neg (by omega)]
      rw [pieces_fuel (m' - 1 + 1) _ _ (l'.drop 32) (by simp; omega), pieces_fuel _ _ _ (l'.drop 32) (by simp; omega)]

set_option maxRecDepth 20000 in
set_option maxHeartbeats 8000000 in
theorem rappend_some (p : Nat) (S : DG) (Fp : Nat → Prop) (w : World) (s : ByteArray) (a : Option Addr) (m c : Nat) (l : List UInt8) (h : IsRef w p S Fp) (hs : s.size ≤ maxLen) (hb : Bytes w a m l) (hmc : m ≤ c) (hnil : a = none → m = 0 ∧ c = 0)
    (ha : 0 < m → ∀ x, a = some x → ¬ Fp x.block ∧ x.block < w.heap.size) (hbs : (S.bs s.data.toList).length ≤ 4194304) (hn : S.n ≤ 256) (hw : S.wr < 4000000000000000000) (hl : S.left ≤ 9223372036854775807) (hm : m ≤ 9223372036854775807) (bs : List UInt8) (hf : S.f s.data.toList = some bs) :
    Calls Tryd.prog 22 #[.pointer (some ⟨p, 0, none⟩), .string s, .slice a m c] w fun e w' => e = .returned (.int .i64 (S.app s.data.toList l).2) ∧ IsRef w' p (S.app s.data.toList l).1 (grow Fp w w') ∧ Turn Fp w w' := by
  have hlt := h.lt
  have hll := hb.1
  obtain ⟨fs, is, left, hR, hM⟩ := h
  have hname := rname_any s w hs
  have hfind := find_any p fs is S.wr left Fp w s hR
  have hisn : is.length ≤ 256 := by rw [← hM.n]; exact hn
  have HS : ∀ w1, Below w.heap.size w w1 → IsRef w1 p S (Go.Proofs.YtcbmofapnjdmgaaDoor.grow Fp w w1) ∧ Turn Fp w w1 := fun w1 B1 => ⟨IsRef.grow ⟨fs, is, left, hR.below B1, hM⟩ hlt (fun k hk => .inl hk) B1.size, Turn.of_below Fp B1⟩
  have HS' : Hid _ := HS
  clear HS
  cases hnb : nameB s.data.toList with
  | false =>
    have e : S.app s.data.toList l = (S, 2) := by simp [DG.app, hnb]
    rw [e]
    rw [hnb] at hname
    go_enter Tryd.func22, Tryd.ntmps22
    go_wp2_with fail
    refine hname.mono ?_
    rintro e w1 ⟨rfl, rfl⟩
    go_wp2
    go_ret
    exact ⟨rfl, HS'.out _ (Below.refl _ _)⟩
  | true =>
    rw [hnb] at hname
    obtain ⟨ad, cc, rfl, _, _, _, hcell⟩ := slice2 hR.row rfl
    have hc0 := hR.c0
    have hplt := hR.lt p hR.fp
    · obtain ⟨k, i, hix, hk, hin, hib⟩ := hM.ix_some s bs hf
      rw [hix] at hfind
      obtain ⟨g, rfl, _, q1, _⟩ := hcell k i hk
      obtain ⟨va0, vc0, hv0, _, _⟩ := ownsRow_shape (hR.each i (List.mem_of_getElem? hk)).1
      rw [hv0, hib] at q1
      have hbl : S.bs s.data.toList = bs := by simp [DG.bs, hf]
      rw [hbl] at hbs
      have hkl := (List.getElem?_eq_some_iff.1 hk).1
      have i0 : ¬ (k : Int) < 0 := by omega
      have i1 : (0 : Int) ≤ (k : Int) := by omega
      have i2 : (k : Int) < (is.length : Int) := by omega
      by_cases hlong : 4194304 < m
      · have e : S.app s.data.toList l = (S, 3) := by
          unfold DG.app
          rw [hbl, if_neg (by simp [hnb]), if_pos (.inl (by omega))]
        rw [e]
        have i3 : (4194304 : Int) < (m : Int) := by omega
        go_enter Tryd.func22, Tryd.ntmps22
        go_wp2_with fail
        refine hname.mono ?_
        rintro e w0 ⟨rfl, rfl⟩
        go_wp2_with fail
        refine hfind.mono ?_
        rintro e w1 ⟨rfl, B1⟩
        go_wp2
        go_ret
        exact ⟨rfl, HS'.out _ B1⟩
      · have i3 : ¬ (4194304 : Int) < (m : Int) := by omega
        by_cases hlong2 : 4194304 < bs.length + m
        · have e : S.app s.data.toList l = (S, 3) := by
            unfold DG.app
            rw [hbl, if_neg (by simp [hnb]), if_pos (.inl (by omega))]
          rw [e]
          have i4 : (4194304 : Int) < (bs.length : Int) + (m : Int) := by omega
          go_enter Tryd.func22, Tryd.ntmps22
          go_wp2_with fail
          refine hname.mono ?_
          rintro e w0 ⟨rfl, rfl⟩
          go_wp2_with fail
          refine hfind.mono ?_
          rintro e w1 ⟨rfl, B1⟩
          have c01 : w1.cell? ⟨p, 0, none⟩ = some (.slice (some ⟨g, 0, none⟩) is.length cc) := by rw [B1.cell hplt]; exact hc0
          have q11 : w1.cell? ⟨g, k * 2 + 1, none⟩ = some (.slice va0 bs.length vc0) := by rw [B1.cell (World.block_lt_of_cell? _ _ q1)]; exact q1
          go_wp2
          go_ret
          exact ⟨rfl, HS'.out _ B1⟩
        · have i4 : ¬ (4194304 : Int) < (bs.length : Int) + (m : Int) := by omega
          have he : S.app s.data.toList l = if l = [] then (S, 0) else pieces (l.length + 1) S s.data.toList l := by
            unfold DG.app
            rw [hbl, if_neg (by simp [hnb]), if_neg (by rw [hf]; simp; omega)]
            by_cases h0 : l = []
            · rw [if_pos ⟨by simp [hf], h0⟩, if_pos h0]
            · rw [if_neg (fun h' => h0 h'.2), if_neg h0]
          obtain ⟨T, hT⟩ : ∃ T, S.app s.data.toList l = T := ⟨_, rfl⟩
          rw [hT] at he ⊢
          clear hT
          have HEQ : Hid (T = if l = [] then (S, 0) else pieces (l.length + 1) S s.data.toList l) := he
          clear he
          go_enter Tryd.func22, Tryd.ntmps22
          go_wp2_with fail
          refine hname.mono ?_
          rintro e w0 ⟨rfl, rfl⟩
          go_wp2_with fail
          refine hfind.mono ?_
          rintro e w1 ⟨rfl, B1⟩
          have c01 : w1.cell? ⟨p, 0, none⟩ = some (.slice (some ⟨g, 0, none⟩) is.length cc) := by rw [B1.cell hplt]; exact hc0
          have q11 : w1.cell? ⟨g, k * 2 + 1, none⟩ = some (.slice va0 bs.length vc0) := by rw [B1.cell (World.block_lt_of_cell? _ _ q1)]; exact q1
          have HT0 : Hid (Doing m true (k : Int) S s.data.toList l T) := by
            rcases Nat.eq_zero_or_pos m with h0 | h0
            · refine .inr ⟨h0, fun hh => by have := hh.2; omega, ?_⟩
              rw [HEQ.out, if_pos (List.eq_nil_of_length_eq_zero (by omega))]
            · refine .inl ⟨.inl h0, ?_⟩
              rw [HEQ.out, if_neg (fun e => by rw [e] at hll; simp at hll; omega), hll]
          have HRS0 : Hid (RS w0 w1 p S s ((k : Int)) Fp) := ⟨_, is, left, Fp, hR.below B1, hM, fun k hk => .inl hk, Turn.of_below Fp B1, .inr ⟨k, i, rfl, hk, hin⟩⟩
          have HB0 : Hid (Bytes w1 a m l) := (Turn.of_below (fun _ => False) B1).bytes hb (fun _ _ _ => id)
          have HBD0 : Hid (((S.f s.data.toList).getD []).length + m ≤ 140737488355328 ∧ S.n ≤ 256 ∧ ((k : Int) = (-1 : Int) → S.n < 256) ∧ S.wr + m < 4611686018427387904 ∧ S.left ≤ 9223372036854775807 ∧ (true = true → S.wr + 1 < 4611686018427387904)) := ⟨by rw [hf]; simp; omega, hn, fun hh => by omega, by omega, hl, fun _ => by omega⟩
          have HA0 : Hid (0 < m → ∀ x, a = some x → ¬ Fp x.block ∧ x.block < w0.heap.size) := ha
          have HN0 : Hid (a = none → m = 0 ∧ c = 0) := hnil
          have Hlt : Hid (∀ k, Fp k → k < w0.heap.size) := hlt
          clear ha hnil hb hR hM HS' hfind hname hlt HEQ
          go_wp2_with fail
          go_loopw [2, 7, 8] (fun v2 v7 v8 wr => LR w0 p s Fp T v2 v7 v8 wr ∧ ∃ k : Nat, v7 = .int .i64 (k : Int)) (fun v2 _ v8 _ => meas v2 v8)
          case atStart => exact ⟨⟨S, _, a, m, c, l, true, rfl, rfl, rfl, hmc, HRS0, HB0, ⟨HBD0.out.1, HBD0.out.2.1, HBD0.out.2.2.1, HBD0.out.2.2.2.1, HBD0.out.2.2.2.2.1, fun _ => by have := HBD0.out.2.2.2.2.2; simpa using this⟩, HA0, HN0, HT0⟩, k, rfl⟩
          case round =>
            clear HRS0 HB0 HBD0 HA0 HN0 HT0
            obtain ⟨S', kk, a', m', c', l', first, rfl, rfl, rfl, hmc', HR, HB, HD, HA, HN, HT⟩ := hrel.1
            have hpos : 0 ≤ kk := by obtain ⟨_, e⟩ := hrel.2; cases e; omega
            clear hrel
            rcases HT.out with ⟨htodo, hpc⟩ | ⟨rfl, hnot, hdone⟩
            · obtain ⟨fsx, isx, lx, Gp, hRx, hMx, hGx, hTx, hkk⟩ := HR.out
              have hD := HD.out
              have hwr := rwrite_S p fsx isx lx S' Gp wr hRx hMx (by omega) hD.2.2.2.2.1
              have hlt := Hlt.out
              have hpG := hRx.fp
              have Hpc : Hid (pieces (m' + 1) S' s.data.toList l' = T) := hpc
              have hm0' : (0 : Int) ≤ (m' : Int) := by omega
              have hmc2 : (m' : Int) ≤ (c' : Int) := by omega
              clear hpc HT
              have h0 : 0 < m' := by
                rcases htodo with h | ⟨_, h⟩
                · exact h
                · omega
              have i5 : (0 : Int) < (m' : Int) := by omega
              cases hcan : S'.can with
              | false =>
                have hTe : T = (S', 6) := by rw [← Hpc.out, pieces, if_neg (by simp [hcan])]
                rw [hcan] at hwr
                have HTe : Hid _ := hTe
                clear hTe Hpc
                go_wp2_with fail
                refine hwr.mono ?_
                rintro e w2 ⟨rfl, hT2, hs2, _, h2'⟩
                have hT : Turn Fp w0 w2 := hTx.trans hT2 (fun i hi h => by subst h; exact (hGx _ hpG).elim id (fun h1 => by omega))
                have hend : IsRef w2 p S' (Go.Proofs.YtcbmofapnjdmgaaDoor.grow Fp w0 w2) := IsRef.grow ⟨_, _, lx, h2' (by simp), hMx⟩ hlt hGx hT.size
                have HE : Hid _ := hend
                clear h2' hT2 hs2 hwr hend
                go_wp2
                go_ret
                rw [HTe.out]
                exact ⟨rfl, HE.out, hT⟩
              | true =>
                by_cases hm32 : m' ≤ 32
                · rw [hcan] at hwr
                  obtain ⟨k3, i3, rfl, hk3, hin3⟩ : ∃ (k : Nat) (i : It), kk = (k : Int) ∧ isx[k]? = some i ∧ i.name = s := by
                    rcases hkk with h | h
                    · omega
                    · exact h
                  have jk : ¬ (k3 : Int) < 0 := by omega
                  have j32 : ¬ (32 : Int) < (m' : Int) := by omega
                  have hnn' : m' ≤ m' := Nat.le_refl _
                  go_wp2_with fail
                  refine hwr.mono ?_
                  rintro e w2 ⟨rfl, hT2, hs2, h2', _⟩
                  obtain ⟨left', hR2, hM2⟩ := h2' (by simp)
                  have hT2' : Turn Fp w0 w2 := hTx.trans hT2 (fun i hi h => by subst h; exact (hGx _ hpG).elim id (fun h1 => by omega))
                  have hB2 : Bytes w2 a' m' l' := hT2.bytes HB.out (fun h0 x hx e => by have h1 := HA.out h0 x hx; rw [e] at h1; exact (hGx _ hpG).elim h1.1 (fun h2 => by omega))
                  clear hwr h2' hT2 hs2
                  obtain ⟨w3, rfl⟩ : ∃ w3, w3 = w2 := ⟨_, rfl⟩
                  have hR3 := hR2
                  have hM3 := hM2
                  obtain ⟨S3, hS3⟩ : ∃ S3, S3 = S'.done := ⟨_, rfl⟩
                  rw [← hS3] at hR3 hM3
                  have hT3 := hT2'
                  have hG3 := hGx
                  have hB3 := hB2
                  have hnil2 : a' = none → m' = 0 ∧ c' = 0 := fun h => ⟨by have := (HN.out h).1; omega, (HN.out h).2⟩
                  have HS3 : S3 = S'.done ∨ (S3 = S'.done.set s.data.toList [] ∧ S'.f s.data.toList = none) := .inl hS3
                  have c03 := hR3.c0
                  obtain ⟨_, cF, e3, _, _, _, hcell3⟩ := slice2 hR3.row rfl
                  subst e3
                  obtain ⟨g, rfl, _, q31, qf3⟩ := hcell3 k3 i3 hk3
                  obtain ⟨va, vc, hv3, hvc3, hvn3⟩ := ownsRow_shape (hR3.each i3 (List.mem_of_getElem? hk3)).1
                  have hrow3 := (hR3.each i3 (List.mem_of_getElem? hk3)).1
                  rw [hv3] at hrow3 q31
                  have qf31 := qf3 (k3 * 2 + 1)
                  have hkl3 := (List.getElem?_eq_some_iff.1 hk3).1
                  have z1 : (0 : Int) ≤ (k3 : Int) := by omega
                  have z2 : (k3 : Int) < (isx.length : Int) := by omega
                  have hbk : S3.bs s.data.toList = i3.bs := by
                    have e := hM3.f i3.k
                    rw [It.k_eq.2 hin3] at e
                    cases hsk : seek isx s.data.toList with
                    | none => exact absurd (It.k_eq.2 hin3) (seek_none.1 hsk i3 (List.mem_of_getElem? hk3))
                    | some j => 
                      have hj := seek_mem hsk
                      have : j = i3 := uniq hM3.nd hj.1 (List.mem_of_getElem? hk3) (by rw [It.k_eq.1 hj.2, hin3])
                      rw [hsk, this] at e
                      simp [DG.bs, e]
                  have hlen2 : i3.bs.length + m' ≤ 140737488355328 := by rw [(round_set S' S3 s [] i3.bs HS3 hbk).2.1]; omega
                  have hbD : Bytes w3.drew a' m' (l'.take m') := ⟨(hB3.take m' hnn').1, (hB3.take m' hnn').2⟩
                  have hend : ∀ v' w4, w4.ownsRow 0 5 1 v' (i3.bs.length + m') (cellsOf i3.bs ++ cellsOf (l'.take m')) → w3.drew.grownBy w4 (Value.slice va i3.bs.length vc).ownBlock → (v'.ownBlock = (Value.slice va i3.bs.length vc).ownBlock ∨ v'.ownBlock = some w3.drew.heap.size) →
                      (w4.cell? ⟨p, 0, none⟩ = some (.slice (some ⟨g, 0, none⟩) isx.length cF) ∧ w4.cell? ⟨g, k3 * 2 + 1, none⟩ = some (.slice va i3.bs.length vc) ∧ w4.frozen? ⟨g, k3 * 2 + 1, none⟩ = false) ∧ Hid (RS w0 (w4.setCell ⟨g, k3 * 2 + 1, none⟩ v') p (S3.set s.data.toList (i3.bs ++ l'.take m')) s (k3 : Int) Fp) ∧ Hid (Turn Gp w3 (w4.setCell ⟨g, k3 * 2 + 1, none⟩ v')) := by
                    intro v' w4 ho4 hg4 hat4
                    have hg4' : w3.grownBy w4 i3.v.ownBlock := by rw [hv3]; exact ⟨hg4.os, hg4.tape, hg4.output, hg4.size, hg4.block⟩
                    have hlen4 : (i3.bs ++ l'.take m').length = i3.bs.length + m' := by rw [List.length_append, (hB3.take m' hnn').1]
                    have hmo := hR3.more k3 i3 hk3 v' (i3.bs ++ l'.take m') (by rw [hlen4, cellsOf_append]; exact ho4) hg4' (by rw [hv3]; exact hat4)
                    have hni : ∀ g', i3.v.ownBlock = some g' → g' ≠ p ∧ g' ≠ g := fun g' hg' => ⟨((hR3.each i3 (List.mem_of_getElem? hk3)).2 g' hg').2.1, fun e => ((hR3.each i3 (List.mem_of_getElem? hk3)).2 g' hg').2.2 (by rw [e]; rfl)⟩
                    have hMm := hM3.put k3 i3 ⟨i3.name, v', i3.bs ++ l'.take m'⟩ hk3 rfl
                    rw [It.k_eq.2 hin3] at hMm
                    refine ⟨⟨hg4'.cell c03 (fun e => (hni _ e.symm).1 rfl), hg4'.cell q31 (fun e => (hni _ e.symm).2 rfl), ?_⟩, ⟨_, _, left', _, hmo.1, hMm, ?_, ?_, .inr ⟨k3, _, rfl, List.getElem?_set_self hkl3, hin3⟩⟩, hmo.2⟩
                    · rw [World.frozen?_of_block (hg4'.block g (hR3.lt g (hR3.ff g rfl).1) (fun e => (hni _ e.symm).2 rfl))]; exact qf31
                    · exact fun k hk => hk.elim (hG3 k) (fun h => .inr (by have := hT3.size; omega))
                    · exact hT3.trans hmo.2 (fun i hi h => (hG3 i h).elim id (fun h1 => by omega))
                  have hsome : (S'.f s.data.toList).isSome = true := by
                    have e := hM2.f s.data.toList
                    change S'.f s.data.toList = _ at e
                    rw [e]
                    cases hsk : seek isx s.data.toList with
                    | none => exact absurd (It.k_eq.2 hin3) (seek_none.1 hsk i3 (List.mem_of_getElem? hk3))
                    | some _ => rfl
                  have hsame := round_set S' S3 s (l'.take m') i3.bs HS3 hbk
                  have HNX : Hid (∀ (wE : World) (aa : Option Addr), (aa = none → c' - m' = 0) → RS w0 wE p (S3.set s.data.toList (i3.bs ++ l'.take m')) s (k3 : Int) Fp → LR w0 p s Fp T (.slice aa 0 (c' - m')) (.int .i64 (k3 : Int)) (.bool false) wE) := by
                    intro wE aa haa hE
                    have := LR.next (kk := (k3 : Int)) (S' := S') (l' := l') (m' := m') (wE := wE) m' _ k3 aa (c' - m') hsame.1 hcan HB.out.1 (.inl ⟨hm32, rfl⟩) Hpc.out hE (by rw [Nat.sub_self, List.drop_of_length_le (by have := HB.out.1; omega)]; exact ⟨rfl, fun h => by omega⟩) (by omega) ⟨hD.1, hD.2.1, hD.2.2.1, hD.2.2.2.1, hD.2.2.2.2.1⟩ (.inr hsome) (fun h => by omega) (fun h => ⟨by omega, haa h⟩) (by omega)
                    rw [Nat.sub_self] at this
                    exact this
                  clear hsame hsome hbk
                  have HEnd : Hid _ := hend
                  clear hend hcell3 qf3 hM3
                  go_wp2_with fail
                  go_region_law ((refine step_append_row _ (by rfl) _ _ (by rfl) (.slice va i3.bs.length vc) i3.bs.length (cellsOf i3.bs) (by rfl) hrow3.drew a' m' c' (l'.take m') (by rfl) hbD hnil2 hlen2 ?_; intro v' w4 ho4 hg4 hat4; obtain ⟨a4, c4, rfl, _, _⟩ := ownsRow_shape ho4; obtain ⟨⟨hx0, hx1, hx2⟩, hE4, hT4⟩ := HEnd.out _ w4 ho4 hg4 hat4))
                  all_goals go_wp2
                  all_goals (refine ⟨⟨HNX.out _ _ (by intro h; split at h <;> first | omega | (have := HN.out (by simpa using h); omega)) hE4.out, k3, rfl⟩, ?_⟩; show 0 + 0 < m' + _; omega)
                · rw [hcan] at hwr
                  obtain ⟨k3, i3, rfl, hk3, hin3⟩ : ∃ (k : Nat) (i : It), kk = (k : Int) ∧ isx[k]? = some i ∧ i.name = s := by
                    rcases hkk with h | h
                    · omega
                    · exact h
                  have jk : ¬ (k3 : Int) < 0 := by omega
                  have j32 : (32 : Int) < (m' : Int) := by omega
                  have j33 : ¬ c' = 32 := by omega
                  have j34 : (32 : Int) ≤ (c' : Int) := by omega
                  have j35 : (0 : Int) ≤ 32 := by omega
                  have hll3 : l'.length = m' := HB.out.1
                  have HLL : Hid (l'.length = m') := hll3
                  clear hll3
                  have hnn' : 32 ≤ m' := by omega
                  go_wp2_with fail
                  refine hwr.mono ?_
                  rintro e w2 ⟨rfl, hT2, hs2, h2', _⟩
                  obtain ⟨left', hR2, hM2⟩ := h2' (by simp)
                  have hT2' : Turn Fp w0 w2 := hTx.trans hT2 (fun i hi h => by subst h; exact (hGx _ hpG).elim id (fun h1 => by omega))
                  have hB2 : Bytes w2 a' m' l' := hT2.bytes HB.out (fun h0 x hx e => by have h1 := HA.out h0 x hx; rw [e] at h1; exact (hGx _ hpG).elim h1.1 (fun h2 => by omega))
                  clear hwr h2' hT2 hs2
                  obtain ⟨w3, rfl⟩ : ∃ w3, w3 = w2 := ⟨_, rfl⟩
                  have hR3 := hR2
                  have hM3 := hM2
                  obtain ⟨S3, hS3⟩ : ∃ S3, S3 = S'.done := ⟨_, rfl⟩
                  rw [← hS3] at hR3 hM3
                  have hT3 := hT2'
                  have hG3 := hGx
                  have hB3 := hB2
                  have hnil2 : a' = none → 32 = 0 ∧ c' = 0 := fun h => ⟨by have := (HN.out h).1; omega, (HN.out h).2⟩
                  have HS3 : S3 = S'.done ∨ (S3 = S'.done.set s.data.toList [] ∧ S'.f s.data.toList = none) := .inl hS3
                  have c03 := hR3.c0
                  obtain ⟨_, cF, e3, _, _, _, hcell3⟩ := slice2 hR3.row rfl
                  subst e3
                  obtain ⟨g, rfl, _, q31, qf3⟩ := hcell3 k3 i3 hk3
                  obtain ⟨va, vc, hv3, hvc3, hvn3⟩ := ownsRow_shape (hR3.each i3 (List.mem_of_getElem? hk3)).1
                  have hrow3 := (hR3.each i3 (List.mem_of_getElem? hk3)).1
                  rw [hv3] at hrow3 q31
                  have qf31 := qf3 (k3 * 2 + 1)
                  have hkl3 := (List.getElem?_eq_some_iff.1 hk3).1
                  have z1 : (0 : Int) ≤ (k3 : Int) := by omega
                  have z2 : (k3 : Int) < (isx.length : Int) := by omega
                  have hbk : S3.bs s.data.toList = i3.bs := by
                    have e := hM3.f i3.k
                    rw [It.k_eq.2 hin3] at e
                    cases hsk : seek isx s.data.toList with
                    | none => exact absurd (It.k_eq.2 hin3) (seek_none.1 hsk i3 (List.mem_of_getElem? hk3))
                    | some j => 
                      have hj := seek_mem hsk
                      have : j = i3 := uniq hM3.nd hj.1 (List.mem_of_getElem? hk3) (by rw [It.k_eq.1 hj.2, hin3])
                      rw [hsk, this] at e
                      simp [DG.bs, e]
                  have hlen2 : i3.bs.length + 32 ≤ 140737488355328 := by rw [(round_set S' S3 s [] i3.bs HS3 hbk).2.1]; omega
                  have hbD : Bytes w3.drew a' 32 (l'.take 32) := ⟨(hB3.take 32 hnn').1, (hB3.take 32 hnn').2⟩
                  have hend : ∀ v' w4, w4.ownsRow 0 5 1 v' (i3.bs.length + 32) (cellsOf i3.bs ++ cellsOf (l'.take 32)) → w3.drew.grownBy w4 (Value.slice va i3.bs.length vc).ownBlock → (v'.ownBlock = (Value.slice va i3.bs.length vc).ownBlock ∨ v'.ownBlock = some w3.drew.heap.size) →
                      (w4.cell? ⟨p, 0, none⟩ = some (.slice (some ⟨g, 0, none⟩) isx.length cF) ∧ w4.cell? ⟨g, k3 * 2 + 1, none⟩ = some (.slice va i3.bs.length vc) ∧ w4.frozen? ⟨g, k3 * 2 + 1, none⟩ = false) ∧ Hid (RS w0 (w4.setCell ⟨g, k3 * 2 + 1, none⟩ v') p (S3.set s.data.toList (i3.bs ++ l'.take 32)) s (k3 : Int) Fp) ∧ Hid (Turn Gp w3 (w4.setCell ⟨g, k3 * 2 + 1, none⟩ v')) := by
                    intro v' w4 ho4 hg4 hat4
                    have hg4' : w3.grownBy w4 i3.v.ownBlock := by rw [hv3]; exact ⟨hg4.os, hg4.tape, hg4.output, hg4.size, hg4.block⟩
                    have hlen4 : (i3.bs ++ l'.take 32).length = i3.bs.length + 32 := by rw [List.length_append, (hB3.take 32 hnn').1]
                    have hmo := hR3.more k3 i3 hk3 v' (i3.bs ++ l'.take 32) (by rw [hlen4, cellsOf_append]; exact ho4) hg4' (by rw [hv3]; exact hat4)
                    have hni : ∀ g', i3.v.ownBlock = some g' → g' ≠ p ∧ g' ≠ g := fun g' hg' => ⟨((hR3.each i3 (List.mem_of_getElem? hk3)).2 g' hg').2.1, fun e => ((hR3.each i3 (List.mem_of_getElem? hk3)).2 g' hg').2.2 (by rw [e]; rfl)⟩
                    have hMm := hM3.put k3 i3 ⟨i3.name, v', i3.bs ++ l'.take 32⟩ hk3 rfl
                    rw [It.k_eq.2 hin3] at hMm
                    refine ⟨⟨hg4'.cell c03 (fun e => (hni _ e.symm).1 rfl), hg4'.cell q31 (fun e => (hni _ e.symm).2 rfl), ?_⟩, ⟨_, _, left', _, hmo.1, hMm, ?_, ?_, .inr ⟨k3, _, rfl, List.getElem?_set_self hkl3, hin3⟩⟩, hmo.2⟩
                    · rw [World.frozen?_of_block (hg4'.block g (hR3.lt g (hR3.ff g rfl).1) (fun e => (hni _ e.symm).2 rfl))]; exact qf31
                    · exact fun k hk => hk.elim (hG3 k) (fun h => .inr (by have := hT3.size; omega))
                    · exact hT3.trans hmo.2 (fun i hi h => (hG3 i h).elim id (fun h1 => by omega))
                  have hsome : (S'.f s.data.toList).isSome = true := by
                    have e := hM2.f s.data.toList
                    change S'.f s.data.toList = _ at e
                    rw [e]
                    cases hsk : seek isx s.data.toList with
                    | none => exact absurd (It.k_eq.2 hin3) (seek_none.1 hsk i3 (List.mem_of_getElem? hk3))
                    | some _ => rfl
                  have hsame := round_set S' S3 s (l'.take 32) i3.bs HS3 hbk
                  have HNX : Hid (∀ (wE : World), RS w0 wE p (S3.set s.data.toList (i3.bs ++ l'.take 32)) s (k3 : Int) Fp → Turn Gp w3 wE → LR w0 p s Fp T (.slice (Option.map (fun x => { block := x.block, off := x.off + 32 }) a') (m' - 32) (c' - 32)) (.int .i64 (k3 : Int)) (.bool false) wE) := by
                    intro wE hE hTE
                    obtain ⟨bb, off, ea, hcell⟩ := hB3.2 (by omega)
                    subst ea
                    have hA := HA.out (by omega) ⟨bb, off, none⟩ rfl
                    refine LR.next (kk := (k3 : Int)) (S' := S') (l' := l') (m' := m') (wE := wE) 32 _ k3 _ (c' - 32) hsame.1 hcan HB.out.1 (.inr ⟨by omega, rfl⟩) Hpc.out hE ⟨by have := HB.out.1; rw [List.length_drop]; omega, fun _ => ⟨bb, off + 32, rfl, fun i hi => ?_⟩⟩ (by omega) ⟨hD.1, hD.2.1, hD.2.2.1, hD.2.2.2.1, hD.2.2.2.2.1⟩ (.inr hsome) ?_ (fun h => by simp at h) (by omega)
                    · rw [bt_drop, show off + 32 + i = off + (32 + i) by omega]
                      exact hTE.cell (hcell (32 + i) (by omega)) (fun hg => (hG3 _ hg).elim hA.1 (fun h => absurd hA.2 (Nat.not_lt.2 h)))
                    · intro _ x hx
                      simp only [Option.map_some, Option.some.injEq] at hx
                      subst hx
                      exact hA
                  clear hsame hsome hbk
                  have HEnd : Hid _ := hend
                  clear hend hcell3 qf3 hM3
                  go_wp2_with fail
                  go_region_law ((refine step_append_row _ (by rfl) _ _ (by rfl) (.slice va i3.bs.length vc) i3.bs.length (cellsOf i3.bs) (by rfl) hrow3.drew a' 32 c' (l'.take 32) (by rfl) hbD hnil2 hlen2 ?_; intro v' w4 ho4 hg4 hat4; obtain ⟨a4, c4, rfl, _, _⟩ := ownsRow_shape ho4; obtain ⟨⟨hx0, hx1, hx2⟩, hE4, hT4⟩ := HEnd.out _ w4 ho4 hg4 hat4))
                  all_goals go_wp2
                  all_goals (refine ⟨⟨HNX.out _ hE4.out hT4.out, k3, rfl⟩, ?_⟩; show (m' - 32) + 0 < m' + _; omega)
            · have hfk : first = false ∨ 0 ≤ kk := .inr hpos
              have hend := HR.out.ref Hlt.out
              have HE : Hid _ := hend
              have Hd : Hid _ := hdone
              clear hend hdone hnot HT
              rcases hfk with rfl | hkk
              · go_wp2
                go_ret
                rw [Hd.out]
                exact ⟨rfl, HE.out⟩
              · have j1 : ¬ kk < 0 := by omega
                cases first
                · go_wp2
                  go_ret
                  rw [Hd.out]
                  exact ⟨rfl, HE.out⟩
                · go_wp2
                  go_ret
                  rw [Hd.out]
                  exact ⟨rfl, HE.out⟩

end Go.Proofs.YtcbmofapnjdmgaaDoor
