/- The walk of the law OctetReads. -/
import Derived.Test.YtkfmihbbmafolaaToldWalk
import Derived.Test.YtkfmihbbmafolaaRefDoD
import Derived.Test.YtkfmihbbmafolaaRefPut
import Derived.Test.YtkfmihbbmafolaaWakes
import Derived.Deep.DeepMust
namespace Go.Proofs.Ytkfmihbbmafolaa
open Go.RowKit

theorem end_any (w : World) (r g p m : Nat) (x : Int) (L : List UInt8) (h : Rd w r g p x L) (hm : L.length = p + m) :
    Calls Try.prog 29 #[.pointer (some ⟨r, 0, none⟩)] w fun e w' => e = .returned (.int .i64 (if x = 0 ∧ 0 < m then 111 else x)) ∧ ∃ k, w' = w.drewN k := by
  by_cases hx : x = 0
  · subst hx
    refine (end_ok w r g p m L h hm).mono fun e w' ⟨h1, h2⟩ => ⟨?_, h2⟩
    rw [h1]
    by_cases h0 : 0 < m
    · simp [h0]
    · simp [h0]
  · rw [if_neg (by simp [hx])]
    exact (end_err w r x h.c1 (by simpa using hx)).mono fun e w' ⟨h1, h2⟩ => ⟨h1, 0, by rw [h2]; rfl⟩

set_option maxHeartbeats 400000 in
theorem read_lt (a : Option Addr) (n cap : Nat) (l : List UInt8) (w : World) (hb : Bytes w a n l) (hm : n ≤ 281474976710656) :
    Calls Try.prog 24 #[.slice a n cap] w fun e w' => ∃ r g, e = .returned (.pointer (some ⟨r, 0, none⟩)) ∧ w.heap.size ≤ r ∧ w.heap.size ≤ g ∧ g < r ∧ Rd w' r g 0 0 l ∧ w.grownBy w' none := by
  go_enter Try.func24, Try.ntmps24
  go_wp2_with fail
  refine (withRoom_any a n cap 0 l w hb (by omega)).mono ?_
  rintro e w1 ⟨rfl, hown, hg⟩
  go_wp2
  go_ret
  have hll : l.length = n := hb.1
  obtain ⟨hby, _, hlt⟩ := ownsRow_bytes hown
  have hlt' : w.heap.size < w1.heap.size := hlt
  refine ⟨w1.heap.size, w.heap.size, rfl, hg.size, Nat.le_refl _, hlt', ?_, grownBy_trans hg (World.grownBy_alloc _ _ _)⟩
  refine ⟨?_, ?_, ?_, ?_, ?_, by omega, by unfold maxLen; omega, by omega, fun i hi => ?_⟩
  · simp
  · simp
  · simp [hll]
  · simp
  · simp
  · obtain ⟨b, off, hb1, hc⟩ := hby.2 (by omega)
    simp only [Option.some.injEq, Addr.mk.injEq, and_true] at hb1
    obtain ⟨rfl, rfl⟩ := hb1
    have := hc i (by omega)
    rw [Nat.zero_add] at this
    exact (World.grownBy_alloc w1 _ none).cell this (by simp)


/-- the asks that came in -/
def Asks (w : World) (a : Option Addr) (n : Nat) (ks : Nat → Int × Int) : Prop :=
  (0 < n → ∃ b off, a = some ⟨b, off, none⟩ ∧ ∀ i, i < n → w.cell? ⟨b, off + i * 2, none⟩ = some (.int .i64 (ks i).1) ∧ w.cell? ⟨b, off + i * 2 + 1, none⟩ = some (.int .i64 (ks i).2)) ∧
  ∀ i, i < n → -9223372036854775808 ≤ (ks i).1 ∧ (ks i).1 ≤ 9223372036854775807 ∧ (ks i).2 ≤ 9223372036854775807

/-- what stands at the head of a round -/
structure Head (w wr : World) (M b r g s gs : Nat) (L : List UInt8) (off n c p : Nat) (er : Int) : Prop where
  mw : M < wr.heap.size
  m0 : wr.cell? ⟨M, 0, none⟩ = some (.slice (some ⟨b, off, none⟩) n c)
  m1 : wr.cell? ⟨M, 1, none⟩ = some (.int .i64 er)
  f0 : wr.frozen? ⟨M, 0, none⟩ = false
  f1 : wr.frozen? ⟨M, 1, none⟩ = false
  by_ : Bytes wr (some ⟨b, off, none⟩) n (L.drop p)
  hc : n ≤ c
  rd : Rd wr r g p er L
  rd2 : Rd wr s gs 0 0 L
  bw : b < wr.heap.size
  low : Below w.heap.size w wr

/-- what End answers -/
def endV (x : Int) (m : Nat) : Int := if x = 0 ∧ 0 < m then 111 else x
theorem end_v (w : World) (r g p m : Nat) (x : Int) (L : List UInt8) (h : Rd w r g p x L) (hm : L.length = p + m) :
    Calls Try.prog 29 #[.pointer (some ⟨r, 0, none⟩)] w fun e w' => e = .returned (.int .i64 (endV x m)) ∧ ∃ k, w' = w.drewN k := by
  unfold endV
  exact end_any w r g p m x L h hm
theorem refEnd_v (a : Option Addr) (n c : Nat) (x : Int) (w : World) :
    Calls Try.prog 30 #[.agg #[.slice a n c, .int .i64 x]] w fun e w' => e = .returned (.int .i64 (endV x n)) ∧ Below w.heap.size w w' := by
  unfold endV
  exact refEnd_any a n c x w

theorem kind_bd (K : Int) : 0 ≤ (wrap64 (K.tmod 5 + 5)).tmod 5 ∧ (wrap64 (K.tmod 5 + 5)).tmod 5 ≤ 4 := by
  have h1 : -5 < K.tmod 5 := Int.lt_tmod_of_pos K (by omega)
  have h2 : K.tmod 5 < 5 := Int.tmod_lt_of_pos K (by omega)
  have e : wrap64 (K.tmod 5 + 5) = K.tmod 5 + 5 := by
    generalize K.tmod 5 = z at *
    unfold wrap64
    omega
  rw [e]
  have h3 : 0 ≤ (K.tmod 5 + 5).tmod 5 := Int.tmod_nonneg _ (by omega)
  have h4 : (K.tmod 5 + 5).tmod 5 < 5 := Int.tmod_lt_of_pos _ (by omega)
  omega

theorem Rd.drew {w : World} {r g p : Nat} {e : Int} {l : List UInt8} (h : Rd w r g p e l) : Rd w.drew r g p e l :=
  ⟨h.c0, h.c1, h.c2, h.f0, h.f1, h.hp, h.hl, h.ne, h.row⟩
theorem grownBy_drew (w : World) (row : Option Nat) : w.grownBy w.drew row := ⟨rfl, rfl, rfl, Nat.le_refl _, fun _ _ _ => rfl⟩
theorem Bytes.drew {w : World} {a : Option Addr} {n : Nat} {l : List UInt8} (h : Bytes w a n l) : Bytes w.drew a n l := h

/-- what stays through the middle of a round -/
structure Mid (w W : World) (M b s gs : Nat) (L rest : List UInt8) (off n : Nat) : Prop where
  m0 : ∃ v, W.cell? ⟨M, 0, none⟩ = some v
  m1 : ∃ v, W.cell? ⟨M, 1, none⟩ = some v
  f0 : W.frozen? ⟨M, 0, none⟩ = false
  f1 : W.frozen? ⟨M, 1, none⟩ = false
  by_ : Bytes W (some ⟨b, off, none⟩) n rest
  rd2 : Rd W s gs 0 0 L
  bw : b < W.heap.size
  mw : M < W.heap.size
  low : Below w.heap.size w W

theorem Mid.kept {w W W' : World} {M b s gs : Nat} {L rest : List UInt8} {off n : Nat} {row : Option Nat} (h : Mid w W M b s gs L rest off n) (hg : W.grownBy W' row)
    (h1 : row ≠ some M) (h2 : row ≠ some b) (h3 : row ≠ some s) (h4 : row ≠ some gs) (h5 : ∀ k, row = some k → w.heap.size ≤ k) : Mid w W' M b s gs L rest off n where
  m0 := by obtain ⟨v, hv⟩ := h.m0; exact ⟨v, hg.cell hv (fun e => h1 e.symm)⟩
  m1 := by obtain ⟨v, hv⟩ := h.m1; exact ⟨v, hg.cell hv (fun e => h1 e.symm)⟩
  f0 := by rw [World.frozen?_of_block (hg.block M h.mw (fun e => h1 e.symm))]; exact h.f0
  f1 := by rw [World.frozen?_of_block (hg.block M h.mw (fun e => h1 e.symm))]; exact h.f1
  by_ := h.by_.kept hg (by intro x hx; cases hx; exact h2)
  rd2 := h.rd2.kept hg h3 h4
  bw := Nat.lt_of_lt_of_le h.bw hg.size
  mw := Nat.lt_of_lt_of_le h.mw hg.size
  low := h.low.grown hg h.low.size h5

theorem head_of {w W : World} {M b r g s gs : Nat} {L rest : List UInt8} {off n c p : Nat} {er : Int} (h : Mid w W M b s gs L rest off n) (hR : Rd W r g p er L) (hd : L.drop p = rest) (hc : n ≤ c)
    (nr : M ≠ r) (ng : M ≠ g) (nb : M ≠ b) (ns : M ≠ s) (ngs : M ≠ gs) (hw : w.heap.size ≤ M) :
    Head w ((W.setCell ⟨M, 0, none⟩ (.slice (some ⟨b, off, none⟩) n c)).setCell ⟨M, 1, none⟩ (.int .i64 er)) M b r g s gs L off n c p er := by
  have hg : W.grownBy ((W.setCell ⟨M, 0, none⟩ (.slice (some ⟨b, off, none⟩) n c)).setCell ⟨M, 1, none⟩ (.int .i64 er)) (some M) := grownBy_trans (grownBy_setCell _ _ _ _) (grownBy_setCell _ _ _ _)
  obtain ⟨v0, hv0⟩ := h.m0
  obtain ⟨v1, hv1⟩ := h.m1
  refine ⟨?_, ?_, ?_, ?_, ?_, ?_, hc, hR.kept hg (by simpa using nr) (by simpa using ng), h.rd2.kept hg (by simpa using ns) (by simpa using ngs), ?_, ?_⟩
  · exact Nat.lt_of_lt_of_le h.mw hg.size
  · rw [World.cell?_setCell_other _ _ _ _ (by simp)]
    exact World.cell?_setCell_same _ _ _ hv0
  · have hv1' : (W.setCell ⟨M, 0, none⟩ (.slice (some ⟨b, off, none⟩) n c)).cell? ⟨M, 1, none⟩ = some v1 := by rw [World.cell?_setCell_other _ _ _ _ (by simp)]; exact hv1
    exact World.cell?_setCell_same _ _ _ hv1'
  · rw [World.frozen?_setCell, World.frozen?_setCell]; exact h.f0
  · rw [World.frozen?_setCell, World.frozen?_setCell]; exact h.f1
  · rw [hd]
    exact h.by_.kept hg (by intro x hx; cases hx; simpa using nb)
  · exact Nat.lt_of_lt_of_le h.bw hg.size
  · exact h.low.grown hg h.low.size (by intro k hk; cases hk; exact hw)

set_option maxRecDepth 20000 in
set_option maxHeartbeats 2000000 in
theorem octetReads_walk (a a2 : Option Addr) (n cap na ca : Nat) (ks : Nat → Int × Int) (L : List UInt8) (w : World) (hb : Bytes w a n L) (hk : Asks w a2 na ks) (hm : n ≤ 140737488351232) (hna : na ≤ 140737488351232) :
    Calls Try.prog 5 #[.slice a n cap, .slice a2 na ca] w fun e w' => e = .returned (.bool true) ∧ Below w.heap.size w w' := by
  have HL : Hid (L.length = n) := hb.1
  have Hk : Hid (Asks w a2 na ks) := hk
  clear hk
  go_enter Try.func5, Try.ntmps5
  go_wp2_with fail
  refine (wakes_any _).mono ?_
  rintro e w1 ⟨rfl, B1⟩
  have hb1 := hb.low B1
  go_wp2_with fail
  refine (read_lt a n cap L w1 hb1 (by omega)).mono ?_
  rintro e w2 ⟨r, g, rfl, hr, hg, hgr, hrd, hg2⟩
  have hb2 : Bytes w2 a n L := hb1.kept hg2 (by simp)
  have hz2 := hg2.size
  have rlt2 := hrd.lt
  go_wp2_with fail
  refine (read_lt a n cap L w2 hb2 (by omega)).mono ?_
  rintro e w3 ⟨s, gs, rfl, hs, hgs, hgss, hrds, hg3⟩
  have hb3 : Bytes w3 a n L := hb2.kept hg3 (by simp)
  have hrd3 : Rd w3 r g 0 0 L := hrd.kept hg3 (by simp) (by simp)
  have B3 : Below w.heap.size w w3 := (B1.grown hg2 B1.size (by simp)).grown hg3 (Nat.le_trans B1.size hz2) (by simp)
  clear hb1 hb2 hrd
  go_wp2_with fail
  refine (wakes_any _).mono ?_
  rintro e w4 ⟨rfl, B4⟩
  have hb4 := hb3.low B4
  have hrd4 := hrd3.low B4
  have hrds4 := hrds.low B4
  have B4w : Below w.heap.size w w4 := B3.trans (B4.mono B3.size)
  clear hb3 hrd3 hrds
  go_wp2_with fail
  refine (both_any a none n 0 cap 0 L [] w4 hb4 (Bytes.nothing _ _) (by omega)).mono ?_
  rw [List.append_nil, Nat.add_zero]
  rintro e w5 ⟨rfl, hown5, hg5⟩
  obtain ⟨hb5, _, hblt⟩ := ownsRow_bytes hown5
  have hrd5 : Rd w5 r g 0 0 L := hrd4.kept hg5 (by simp) (by simp)
  have hrds5 : Rd w5 s gs 0 0 L := hrds4.kept hg5 (by simp) (by simp)
  have B5w : Below w.heap.size w w5 := B4w.grown hg5 B4w.size (by simp)
  have rlt4 := hrd4.lt
  have slt4 := hrds4.lt
  obtain ⟨b, hbe⟩ : ∃ b, b = w4.heap.size := ⟨_, rfl⟩
  rw [← hbe] at hb5 hblt rlt4 slt4
  have Hbe : Hid (b = w4.heap.size) := hbe
  obtain ⟨M, hMe⟩ : ∃ M, M = w5.heap.size := ⟨_, rfl⟩
  have HMe : Hid (M = w5.heap.size) := hMe
  have hbM : b < M := by omega
  have hrs : r < s := by omega
  have hrgs : r < gs := by omega
  have hwb : w.heap.size ≤ r := by have := B1.size; omega
  have hHead : ∀ o, o = .cells #[.slice (some ⟨b, 0, none⟩) n n, .int .i64 0] 43 → Head w (w5.alloc o) M b r g s gs L 0 n n 0 0 := by
    intro o ho
    subst ho
    have hB : Below w5.heap.size w5 (w5.alloc (.cells #[.slice (some ⟨b, 0, none⟩) n n, .int .i64 0] 43)) := (Below.refl _ _).alloc (Nat.le_refl _) _
    refine ⟨by rw [hMe]; simp, by rw [hMe]; simp, by rw [hMe]; simp, by rw [hMe]; simp, by rw [hMe]; simp, (by simpa using hb5.low hB), Nat.le_refl _, hrd5.low hB, hrds5.low hB, by simp; omega, B5w.trans (hB.mono B5w.size)⟩
  have HHead := (show Hid _ from hHead)
  clear hown5 hb4 hrd4 hrds4 hHead hrd5 hrds5 hb5 B5w hg5 B4w B4 B3 hg3 hg2 hr hg hs hgs hz2 rlt2 hMe hbe
  go_wp2_with fail
  rw [← Hbe.out, ← HMe.out]
  go_loopw [33] (fun i wr => ∃ (k off n' c p : Nat) (er : Int), k ≤ na ∧ i = .int .i64 k ∧ Head w wr M b r g s gs L off n' c p er) (fun i _ => na - (intOf i).toNat)
  case atStart => exact ⟨0, 0, n, n, 0, 0, Nat.zero_le _, rfl, HHead.out _ rfl⟩
  case round =>
    clear HHead
    obtain ⟨k, off, n', c, p, er, hkn, rfl, HD⟩ := hrel
    by_cases hlt : k < na
    · obtain ⟨ab, aoff, rfl, hcells⟩ := Hk.out.1 (by omega)
      obtain ⟨ac0, ac1⟩ := hcells k hlt
      obtain ⟨r0, r1, r2⟩ := Hk.out.2 k hlt
      rw [← HD.low.cell (World.block_lt_of_cell? w _ ac0)] at ac0
      rw [← HD.low.cell (World.block_lt_of_cell? w _ ac1)] at ac1
      generalize (ks k).1 = K0 at ac0 r0 r1
      generalize (ks k).2 = N0 at ac1 r2
      have mw := HD.mw
      have mc0 := HD.m0
      have mc1 := HD.m1
      have HHD := (show Hid _ from HD)
      clear HD hcells
      go_wp2_with fail
      obtain ⟨kb0, kb4⟩ := kind_bd K0
      generalize (wrap64 (K0.tmod 5 + 5)).tmod 5 = KK at *
      have hLp : (L.drop p).length = n' := HHD.out.by_.1
      have hpL := HHD.out.rd.hp
      rw [List.length_drop] at hLp
      obtain ⟨o, hoe⟩ : ∃ o, o = outOf KK N0 (L.drop p) er := ⟨_, rfl⟩
      have Ho : Hid (o = outOf KK N0 (L.drop p) er) := hoe
      have BA : ∀ ob, Below wr.heap.size wr (wr.alloc ob) := fun ob => (Below.refl _ _).alloc (Nat.le_refl _) ob
      refine (do_any b off n' c er KK N0 (L.drop p) _ (HHD.out.by_.low (BA _)) HHD.out.hc (by unfold maxLen; have := HL.out; omega) (by simp; have := HHD.out.bw; omega) r2 kb0 kb4).mono ?_
      rw [← Ho.out]
      clear hoe
      obtain ⟨orest, oerr, onum, obytes⟩ := o
      rintro e w6 ⟨off1, n1, c1, q1, m1, d1, rfl, hb6, hnc6, hq6, hqb6, B6⟩
      have hz6 : wr.heap.size < w6.heap.size := by have := B6.size; simp at this; omega
      have BX : Below w6.heap.size w6 ((w6.alloc (.cells #[.slice (some ⟨b, off1, none⟩) n1 c1, .int .i64 oerr] 43)).alloc (.cells #[.int .u64 onum, .slice q1 m1 d1] 47)) := below2 w6 _ _
      have B6r : Below wr.heap.size wr w6 := (BA _).trans (B6.mono (by simp))
      have hrlt : r < wr.heap.size := HHD.out.rd.lt
      have hS0 : ((w6.alloc (.cells #[.slice (some ⟨b, off1, none⟩) n1 c1, .int .i64 oerr] 43)).alloc (.cells #[.int .u64 onum, .slice q1 m1 d1] 47)).cell? ⟨wr.heap.size, 0, none⟩ = some (.int .i64 KK) ∧ ((w6.alloc (.cells #[.slice (some ⟨b, off1, none⟩) n1 c1, .int .i64 oerr] 43)).alloc (.cells #[.int .u64 onum, .slice q1 m1 d1] 47)).cell? ⟨wr.heap.size, 1, none⟩ = some (.int .i64 N0) ∧ ((w6.alloc (.cells #[.slice (some ⟨b, off1, none⟩) n1 c1, .int .i64 oerr] 43)).alloc (.cells #[.int .u64 onum, .slice q1 m1 d1] 47)).cell? ⟨w6.heap.size, 0, none⟩ = some (.slice (some ⟨b, off1, none⟩) n1 c1) ∧ ((w6.alloc (.cells #[.slice (some ⟨b, off1, none⟩) n1 c1, .int .i64 oerr] 43)).alloc (.cells #[.int .u64 onum, .slice q1 m1 d1] 47)).cell? ⟨w6.heap.size, 1, none⟩ = some (.int .i64 oerr) ∧ ((w6.alloc (.cells #[.slice (some ⟨b, off1, none⟩) n1 c1, .int .i64 oerr] 43)).alloc (.cells #[.int .u64 onum, .slice q1 m1 d1] 47)).cell? ⟨w6.heap.size + 1, 0, none⟩ = some (.int .u64 onum) ∧ ((w6.alloc (.cells #[.slice (some ⟨b, off1, none⟩) n1 c1, .int .i64 oerr] 43)).alloc (.cells #[.int .u64 onum, .slice q1 m1 d1] 47)).cell? ⟨w6.heap.size + 1, 1, none⟩ = some (.slice q1 m1 d1) := by
        obtain ⟨c6, _⟩ := bcell B6
        refine ⟨?_, ?_, by simp [go_sem], by simp [go_sem], by simp [go_sem], by simp [go_sem]⟩
        · rw [BX.cell (p := ⟨wr.heap.size, 0, none⟩) hz6, c6 _ _ (by simp)]; simp [go_sem]
        · rw [BX.cell (p := ⟨wr.heap.size, 1, none⟩) hz6, c6 _ _ (by simp)]; simp [go_sem]
      have hR0 : Rd ((w6.alloc (.cells #[.slice (some ⟨b, off1, none⟩) n1 c1, .int .i64 oerr] 43)).alloc (.cells #[.int .u64 onum, .slice q1 m1 d1] 47)) r g p er L := (HHD.out.rd.low B6r).low BX
      have hM0 : Mid w ((w6.alloc (.cells #[.slice (some ⟨b, off1, none⟩) n1 c1, .int .i64 oerr] 43)).alloc (.cells #[.int .u64 onum, .slice q1 m1 d1] 47)) M b s gs L orest off1 n1 := by
        have hB := B6r.trans (BX.mono (Nat.le_of_lt hz6))
        have hD := HHD.out
        exact ⟨⟨_, by rw [hB.cell (p := ⟨M, 0, none⟩) hD.mw]; exact hD.m0⟩, ⟨_, by rw [hB.cell (p := ⟨M, 1, none⟩) hD.mw]; exact hD.m1⟩, by rw [hB.frozen (p := ⟨M, 0, none⟩) hD.mw]; exact hD.f0, by rw [hB.frozen (p := ⟨M, 1, none⟩) hD.mw]; exact hD.f1,
          hb6.low BX, hD.rd2.low hB, Nat.lt_of_lt_of_le hD.bw hB.size, Nat.lt_of_lt_of_le hD.mw hB.size, hD.low.trans (hB.mono hD.low.size)⟩
      have hq0 : Bytes ((w6.alloc (.cells #[.slice (some ⟨b, off1, none⟩) n1 c1, .int .i64 oerr] 43)).alloc (.cells #[.int .u64 onum, .slice q1 m1 d1] 47)) q1 m1 obytes := hq6.low BX
      clear hb6 hq6 B6 BX B6r BA ac0 ac1 mc0 mc1 HHD hLp
      go_wp2_with fail
      generalize ((w6.alloc (.cells #[.slice (some ⟨b, off1, none⟩) n1 c1, .int .i64 oerr] 43)).alloc (.cells #[.int .u64 onum, .slice q1 m1 d1] 47)) = W0 at *
      have Hmid : Hid (Mid w W0 M b s gs L orest off1 n1) := hM0
      have HR0 : Hid (Rd W0 r g p er L) := hR0
      have Hq0 : Hid (Bytes W0 q1 m1 obytes) := hq0
      have hqr : ∀ y, q1 = some y → y.block ≠ r := fun y hy => by rw [hqb6 y hy]; omega
      have Hqr : Hid (∀ y, q1 = some y → y.block ≠ r) := hqr
      have Hnc := (show Hid (n1 ≤ c1) from hnc6)
      have HLn : Hid (L.length ≤ 281474976710656) := by show _ ≤ _; have := HL.out; omega
      have nA : (some wr.heap.size : Option Nat) ≠ some r := by simp; omega
      have nX : (some w6.heap.size : Option Nat) ≠ some r := by simp; omega
      have nT : (some (w6.heap.size + 1) : Option Nat) ≠ some r := by simp; omega
      clear hM0 hR0 hq0 hqr hqb6 hnc6
      go_region_held3 (fun W => W.cell? ⟨wr.heap.size, 0, none⟩ = some (.int .i64 KK) ∧ W.cell? ⟨wr.heap.size, 1, none⟩ = some (.int .i64 N0) ∧ W.cell? ⟨w6.heap.size, 0, none⟩ = some (.slice (some ⟨b, off1, none⟩) n1 c1) ∧ W.cell? ⟨w6.heap.size, 1, none⟩ = some (.int .i64 oerr) ∧ W.cell? ⟨w6.heap.size + 1, 0, none⟩ = some (.int .u64 onum) ∧ W.cell? ⟨w6.heap.size + 1, 1, none⟩ = some (.slice q1 m1 d1))
        (first | assumption | exact hS0)
        (first
          | (go_at_call 26; go_must (refine (told_any _ r g p er KK N0 onum q1 m1 d1 L (HR0.out.drew) r2 HLn.out kb0 kb4 (by rw [← Ho.out]) (by rw [← Ho.out]; exact Hq0.out.drew) Hqr.out).mono ?_; rw [← Ho.out]; rintro e w7 ⟨rfl, hpost7⟩; obtain ⟨p1, hR7, hdr7, hg7⟩ := hpost7; have HR7 : Hid (Rd w7 r g p1 oerr L) := hR7; have Hd7 : Hid (L.drop p1 = orest) := hdr7; have hg7' : W0.grownBy w7 (some r) := grownBy_trans (grownBy_drew _ _) hg7; have Hg7 : Hid (W0.grownBy w7 (some r)) := hg7'; have Hm7 : Hid (L.length = p1 + n1) := (by show _ = _; have e1 := Hmid.out.by_.1; have e2 := Hd7.out; rw [← e2, List.length_drop] at e1; have := hR7.hp; omega); have hS7 : w7.cell? ⟨wr.heap.size, 0, none⟩ = some (.int .i64 KK) ∧ w7.cell? ⟨wr.heap.size, 1, none⟩ = some (.int .i64 N0) ∧ w7.cell? ⟨w6.heap.size, 0, none⟩ = some (.slice (some ⟨b, off1, none⟩) n1 c1) ∧ w7.cell? ⟨w6.heap.size, 1, none⟩ = some (.int .i64 oerr) ∧ w7.cell? ⟨w6.heap.size + 1, 0, none⟩ = some (.int .u64 onum) ∧ w7.cell? ⟨w6.heap.size + 1, 1, none⟩ = some (.slice q1 m1 d1) := ⟨hg7.cell hS0.1 nA, hg7.cell hS0.2.1 nA, hg7.cell hS0.2.2.1 nX, hg7.cell hS0.2.2.2.1 nX, hg7.cell hS0.2.2.2.2.1 nT, hg7.cell hS0.2.2.2.2.2 nT⟩; clear hR7 hdr7 hg7 hg7'))
          | (go_at_call 27; refine (left_any _ r g p1 n1 oerr L HR7.out Hm7.out).mono ?_; rintro e w8 ⟨rfl, j8, hw8⟩; have HR8 : Hid (Rd w8 r g p1 oerr L) := (by show Rd _ _ _ _ _ _; rw [hw8]; exact HR7.out.drewN j8); have Hg8 : Hid (W0.grownBy w8 (some r)) := (by show World.grownBy _ _ _; rw [hw8]; exact grownBy_trans Hg7.out (grownBy_drewN _ _ _)); have hS8 : w8.cell? ⟨wr.heap.size, 0, none⟩ = some (.int .i64 KK) ∧ w8.cell? ⟨wr.heap.size, 1, none⟩ = some (.int .i64 N0) ∧ w8.cell? ⟨w6.heap.size, 0, none⟩ = some (.slice (some ⟨b, off1, none⟩) n1 c1) ∧ w8.cell? ⟨w6.heap.size, 1, none⟩ = some (.int .i64 oerr) ∧ w8.cell? ⟨w6.heap.size + 1, 0, none⟩ = some (.int .u64 onum) ∧ w8.cell? ⟨w6.heap.size + 1, 1, none⟩ = some (.slice q1 m1 d1) := (by rw [hw8]; exact hS7); clear hw8)
          | (go_at_call 28; refine (err_any _ r oerr HR8.out.c1).mono ?_; rintro e w9 ⟨rfl, rfl⟩)
          | (go_at_call 29; refine (end_v _ r g p1 n1 oerr L HR8.out Hm7.out).mono ?_; rintro e w10 ⟨rfl, j10, hw10⟩; have HR10 : Hid (Rd w10 r g p1 oerr L) := (by show Rd _ _ _ _ _ _; rw [hw10]; exact HR8.out.drewN j10); have Hg10 : Hid (W0.grownBy w10 (some r)) := (by show World.grownBy _ _ _; rw [hw10]; exact grownBy_trans Hg8.out (grownBy_drewN _ _ _)); have hS10 : w10.cell? ⟨wr.heap.size, 0, none⟩ = some (.int .i64 KK) ∧ w10.cell? ⟨wr.heap.size, 1, none⟩ = some (.int .i64 N0) ∧ w10.cell? ⟨w6.heap.size, 0, none⟩ = some (.slice (some ⟨b, off1, none⟩) n1 c1) ∧ w10.cell? ⟨w6.heap.size, 1, none⟩ = some (.int .i64 oerr) ∧ w10.cell? ⟨w6.heap.size + 1, 0, none⟩ = some (.int .u64 onum) ∧ w10.cell? ⟨w6.heap.size + 1, 1, none⟩ = some (.slice q1 m1 d1) := (by rw [hw10]; exact hS8); clear hw10)
          | (go_at_call 30; refine (refEnd_v _ _ _ _ _).mono ?_; rintro e w11 ⟨rfl, B11⟩; have hg11 := grownBy_of_below B11; have HR11 : Hid (Rd w11 r g p1 oerr L) := HR10.out.kept hg11 (by simp) (by simp); have Hg11 : Hid (W0.grownBy w11 (some r)) := grownBy_trans Hg10.out (grownBy_wide hg11); have hS11 : w11.cell? ⟨wr.heap.size, 0, none⟩ = some (.int .i64 KK) ∧ w11.cell? ⟨wr.heap.size, 1, none⟩ = some (.int .i64 N0) ∧ w11.cell? ⟨w6.heap.size, 0, none⟩ = some (.slice (some ⟨b, off1, none⟩) n1 c1) ∧ w11.cell? ⟨w6.heap.size, 1, none⟩ = some (.int .i64 oerr) ∧ w11.cell? ⟨w6.heap.size + 1, 0, none⟩ = some (.int .u64 onum) ∧ w11.cell? ⟨w6.heap.size + 1, 1, none⟩ = some (.slice q1 m1 d1) := ⟨hg11.cell hS10.1 (by simp), hg11.cell hS10.2.1 (by simp), hg11.cell hS10.2.2.1 (by simp), hg11.cell hS10.2.2.2.1 (by simp), hg11.cell hS10.2.2.2.2.1 (by simp), hg11.cell hS10.2.2.2.2.2 (by simp)⟩; clear hg11 B11))
      have hM11 : Mid w w11 M b s gs L orest off1 n1 := Hmid.out.kept Hg11.out (by simp; omega) (by simp; omega) (by simp; omega) (by simp; omega) (by intro k hk; cases hk; exact hwb)
      have hfin := head_of hM11 HR11.out Hd7.out Hnc.out (by omega) (by omega) (by omega) (by omega) (by omega) (by omega)
      have HF := (show Hid _ from hfin)
      obtain ⟨v0, hv0⟩ := hM11.m0
      obtain ⟨v1, hv1⟩ := hM11.m1
      have hf0 := hM11.f0
      have hf1 := hM11.f1
      obtain ⟨_, _, hx0, hx1, _, _⟩ := hS11
      clear hfin hM11 hS7 hS8 hS10
      go_wp2
      go_roundw
      case rel => exact ⟨k + 1, off1, n1, c1, p1, oerr, by omega, by go_num, HF.out⟩
      case measure => simp [intOf]; omega
    · have hrd2 := HD.rd2
      have hlow := HD.low
      clear HD
      go_wp2_with fail
      refine (left_any _ s gs 0 n 0 L hrd2 (by have := HL.out; omega)).mono ?_
      rintro e w6 ⟨rfl, j, rfl⟩
      go_wp2_with fail
      refine (err_any _ s 0 (hrd2.drewN j).c1).mono ?_
      rintro e w7 ⟨rfl, rfl⟩
      go_wp2
      go_ret
      exact ⟨rfl, hlow.grown (grownBy_drewN _ _ none) hlow.size (by simp)⟩

end Go.Proofs.Ytkfmihbbmafolaa
