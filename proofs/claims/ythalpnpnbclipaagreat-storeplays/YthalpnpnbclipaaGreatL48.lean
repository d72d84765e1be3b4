import Derived.Test.YthalpnpnbclipaaGreatL47
/- The walk of the law StorePlays. -/
namespace Go.Proofs.YthalpnpnbclipaaGreat
open Go.RowKit Go.Shelf Go.Maps

attribute [local go_sem] Oper.semAt_some

/-- things in memory -/
def Things (w : World) (a : Option Addr) (m : Nat) (E : Nat → Th) : Prop :=
  (0 < m → ∃ b off, a = some ⟨b, off, none⟩ ∧ ∀ k, k < m → ∀ (j : Nat) u, (E k).vals[j]? = some u → w.cell? ⟨b, off + k * 8 + j, none⟩ = some u) ∧ ∀ k, k < m → ThAt w (E k)
/-- a thing's box -/
def BoxT (W : World) (g : Nat) (x : Th) : Prop := W.heap[g]? = some (.cells x.vals 41 (0, 0))
theorem BoxT.cell {W : World} {g : Nat} {x : Th} (h : BoxT W g x) : W.cell? ⟨g, 0, none⟩ = some (.int .i64 x.kind) ∧ W.cell? ⟨g, 1, none⟩ = some (.slice x.ba x.bn x.bc) ∧ W.cell? ⟨g, 2, none⟩ = some (.slice x.ta x.tn x.tc) ∧ W.cell? ⟨g, 3, none⟩ = some (.int .u64 x.t) ∧ W.cell? ⟨g, 4, none⟩ = some (.slice x.pa x.pn x.pc) ∧ W.cell? ⟨g, 5, none⟩ = some (.string x.au) ∧ W.cell? ⟨g, 6, none⟩ = some (.int .i64 x.d) ∧ W.cell? ⟨g, 7, none⟩ = some (.string x.tx) := by
  have h' : W.heap[g]? = _ := h
  simp [World.cell?, h', Th.vals]
theorem sput_nilob (w : World) (s : Nat) : Calls Tryz.prog 11 #[.pointer (some ⟨s, 0, none⟩), .nilIface] w fun e w' => e = .returned (.tuple #[.int .u64 0, .int .i64 160]) ∧ Below w.heap.size w w' := by
  have hx := Encode_odd .nilIface odd_nil w
  go_enter Tryz.func11, Tryz.ntmps11
  go_wp2_with (go_at_call 35; refine hx.mono ?_; clear hx; rintro e w1 ⟨rfl, h1⟩; subst h1)
  go_ret2
  exact ⟨rfl, Below.refl _ _⟩
theorem PI.open_ {w wr : World} {s d mb : Nat} {os : List Ob} {S : DG} {F G X : Nat → Prop} {ia ra : Option Addr} {n ic rcp k : Nat} (h : PI w wr s d mb os S F G X ia ra n ic rcp k) (hk : k ≤ 60) :
    Calls Tryz.prog 9 #[.pointer (some ⟨d, 0, none⟩)] wr fun e w' => ∃ s', e = .returned (.tuple #[.pointer (some ⟨s', 0, none⟩), .int .i64 0]) ∧ Below w.heap.size w w' ∧ BoxM w' mb (.slice ia n ic) (.slice ra n rcp) ∧ Calls Tryz.prog 17 #[.pointer (some ⟨s', 0, none⟩), .agg #[.slice ia n ic, .slice ra n rcp]] w' fun e w'' => e = .returned (.bool true) ∧ Below w'.heap.size w' w'' := by
  have hl := h.len
  have hkm : k * 16402 ≤ 60 * 16402 := Nat.mul_le_mul hk (Nat.le_refl _)
  obtain ⟨c1, c2⟩ := h.cnt
  refine (sopen_good wr d os S G h.st.dk h.st.gd h.pu (by omega) (by omega)).mono ?_
  rintro e w' ⟨s', F', G', rfl, hS, hT, hF, hG⟩
  have hb : Below w.heap.size w w' := h.bel.trans (hT.below h.bel.size (fun z hz => (h.q z (.inr hz)).1))
  exact ⟨s', rfl, hb, h.bx.turn hT (fun e => (h.q _ (.inr e)).2 rfl), holds_any w' s' d os _ _ F' hS.st h.pu h.good X ia ra n ic rcp (h.rm.turn hT (fun z hz e => (h.xq z hz).1 (.inr e))) (by omega)⟩
theorem PI.holds_ {w wr : World} {s d mb : Nat} {os : List Ob} {S : DG} {F G X : Nat → Prop} {ia ra : Option Addr} {n ic rcp k : Nat} (h : PI w wr s d mb os S F G X ia ra n ic rcp k) (hk : k ≤ 60) :
    Calls Tryz.prog 17 #[.pointer (some ⟨s, 0, none⟩), .agg #[.slice ia n ic, .slice ra n rcp]] wr fun e w' => e = .returned (.bool true) ∧ Below wr.heap.size wr w' := by
  have hl := h.len
  have := h.cnt.1
  exact holds_any wr s d os _ _ F h.st.st h.pu h.good X ia ra n ic rcp h.rm (by omega)
theorem PI.find_ {w wr : World} {s d mb : Nat} {os : List Ob} {S : DG} {F G X : Nat → Prop} {ia ra : Option Addr} {n ic rcp k : Nat} (h : PI w wr s d mb os S F G X ia ra n ic rcp k) (hk : k ≤ 60) (i : Int) :
    Calls Tryz.prog 15 #[.agg #[.slice ia n ic, .slice ra n rcp], .int .u64 i] wr fun e w' => e = .returned (.int .i64 (fidxI (oids os) i)) ∧ Below wr.heap.size wr w' := by
  obtain ⟨E, hE⟩ := h.rm.all
  have := h.cnt.1
  exact srefFind_any ia n ic ra n rcp (oids os) wr (hE wr (fun _ _ => rfl)).1 (by omega) i

set_option maxRecDepth 100000 in
set_option maxHeartbeats 8000000 in
theorem storePlays_walk (w : World) (a : Option Addr) (m c : Nat) (E : Nat → Th) (hl : Things w a m E) (ask : Int) (ha0 : 0 ≤ ask) (ha1 : ask ≤ 18446744073709551615) :
    Calls Tryz.prog 3 #[.slice a m c, .int .u64 ask] w fun e w' => e = .returned (.bool true) ∧ Below w.heap.size w w' := by
  have hwk := swakes_any
  have hnw := new_any
  have HL : Hid (Things w a m E) := hl
  clear hl
  go_enter Tryz.func3, Tryz.ntmps3
  go_wp2_with first
    | (go_at_call 7; refine (hwk _).mono ?_; rintro e w1 ⟨rfl, B1⟩)
    | (go_at_call 8; refine (hnw _).mono ?_; clear hnw; rintro e w2 ⟨rfl, hd2, B2⟩; have hx := sopen_good w2 _ [] _ _ hd2 (JGd.new _) Pure.nil (by simp [fileB]) (by simp))
  refine hx.mono ?_
  clear hx
  rintro e w3 ⟨s, F, G, rfl, hS3, hT3, hF3, hG3⟩
  have B3 : Below w.heap.size w w3 := B1.trans ((B2.trans (hT3.below B2.size (by rintro k (rfl | rfl) <;> omega))).mono B1.size)
  have Q3 : Hid (∀ k, F k ∨ G k → w.heap.size ≤ k) := fun k hk => by
    have := B1.size
    have := B2.size
    rcases hk with e | e
    · have := hF3 k e; omega
    · rcases hG3 k e with (e | e) | e <;> omega
  have HL3 : Hid (StG w3 s (w1.heap.size + 1) [] ⟨fun _ => none, 0, 0, false, 0⟩ F G ∧ Below w.heap.size w w3) := ⟨hS3, B3⟩
  clear hT3 B2 B1 hd2 B3 hS3 hF3 hG3
  generalize w1.heap.size + 1 = d at *
  go_wp2_with (go_at_call 7; refine (hwk _).mono ?_; rintro e w4 ⟨rfl, B4⟩)
  have HI0 : Hid (PI w (w4.alloc (.cells #[.slice none 0 0, .slice none 0 0] 35)) s d w4.heap.size [] ⟨fun _ => none, 0, 0, false, 0⟩ F G (fun _ => False) none none 0 0 0 0) := by
    obtain ⟨hJ, hb⟩ := HL3.out
    have hB : Below w4.heap.size w4 (w4.alloc (.cells #[.slice none 0 0, .slice none 0 0] 35)) := (Below.refl _ _).alloc (Nat.le_refl _) _
    have hb4 : Below w.heap.size w w4 := hb.trans (B4.mono hb.size)
    have hJ4 := hJ.below B4
    refine ⟨hJ4.below hB, ⟨rfl, rfl, fun k hk => hk.elim, fun _ => ⟨none, 0, 0, []⟩, fun W _ => ⟨⟨rfl, fun h => absurd h (by omega)⟩, fun k hk => absurd hk (by omega)⟩⟩, World.alloc_heap_new _ _, fun z hz => hz.elim, fun z hz => ⟨Q3.out z hz, ?_⟩, hb4.size, hb4.trans (hB.mono hb4.size), ⟨Nat.zero_le _, by simp [fileB]⟩, Pure.nil, fun o ho => by cases ho⟩
    have : z < w4.heap.size := hz.elim (hJ4.st.lt z) (hJ4.dk.lt z)
    omega
  generalize w4.heap.size = mb at *
  clear HL3 Q3 B4
  go_loopw [41] (fun i wr => ∃ (k : Nat) (os : List Ob) (S : DG) (F G X : Nat → Prop) (ia ra : Option Addr) (n ic rcp : Nat), k ≤ m ∧ k ≤ 60 ∧ i = .int .i64 (k : Int) ∧ Hid (PI w wr s d mb os S F G X ia ra n ic rcp k)) (fun i _ => m - (intOf i).toNat)
  case atStart => exact ⟨0, [], _, F, G, _, none, none, 0, 0, 0, Nat.zero_le _, Nat.zero_le _, rfl, HI0⟩
  case round =>
    clear HI0 F G
    obtain ⟨k, os, S, F, G, X, ia, ra, n, ic, rcp, hk, hk60, rfl, H⟩ := hrel
    by_cases hlt : k < m
    · obtain ⟨b0, off, rfl, hc⟩ := HL.out.1 (by omega)
      have hth := HL.out.2 k hlt
      have hck := fun (j : Nat) u (hu : (E k).vals[j]? = some u) => (H.out.bel.cell (p := ⟨b0, off + k * 8 + j, none⟩) (World.block_lt_of_cell? w _ (hc k hlt j u hu))).trans (hc k hlt j u hu)
      generalize E k = x at hth hck
      have i1 : (k : Int) < (m : Int) := by omega
      have i3 : ¬ m ≤ k := by omega
      obtain ⟨kind, ba, bn, bc, bl, ta, tn, tc, tl, t, pa, pn, pc, ps, au, dd, tx⟩ := x
      have q0 := hck 0 (.int .i64 kind) rfl
      have q1 := hck 1 (.slice ba bn bc) rfl
      have q2 := hck 2 (.slice ta tn tc) rfl
      have q3 := hck 3 (.int .u64 t) rfl
      have q4 := hck 4 (.slice pa pn pc) rfl
      have q5 := hck 5 (.string au) rfl
      have q6 := hck 6 (.int .i64 dd) rfl
      have q7 := hck 7 (.string tx) rfl
      simp only [Nat.add_zero] at q0 q1 q2 q3 q4 q5 q6 q7
      clear hc hck
      by_cases h60 : k = 60
      · subst h60
        have HT : Hid (PI w (wr.alloc (.cells #[.int .i64 kind, .slice ba bn bc, .slice ta tn tc, .int .u64 t, .slice pa pn pc, .string au, .int .i64 dd, .string tx] 41)) s d mb os S F G X ia ra n ic rcp 60) := H.out.below ((Below.refl _ wr).alloc (Nat.le_refl _) _)
        clear H hth
        obtain ⟨c0, c1⟩ := HT.out.bx.cell
        cases hfo : findO os ask with
        | none =>
          have hfx : fidxI (oids os) ask = -1 := by unfold fidxI; rw [find_none_fidx hfo]
          have hgt := get_not (wr.alloc (.cells #[.int .i64 kind, .slice ba bn bc, .slice ta tn tc, .int .u64 t, .slice pa pn pc, .string au, .int .i64 dd, .string tx] 41)) s d os _ _ F HT.out.st.st ask ha0 ha1 hfo
          have hfi := HT.out.find_ (by omega) ask
          rw [hfx] at hfi
          have HFO : Hid (findO os ask = none) := hfo
          clear hfo hfx
          go_wp2_with first
            | (go_at_call 14; refine hgt.mono ?_; clear hgt; rintro e w5 ⟨rfl, h5⟩; subst h5)
            | (go_at_call 15; refine hfi.mono ?_; clear hfi; rintro e w6 ⟨rfl, hB6⟩; have H6 : Hid (PI w w6 s d mb os S F G X ia ra n ic rcp 60) := HT.out.below hB6; have hha := has_any w6 s d os _ _ F H6.out.st.st ask ha0 ha1; rw [HFO.out] at hha; have hho := H6.out.holds_ (by omega); obtain ⟨c2, c3⟩ := H6.out.bx.cell; clear hB6)
            | (go_at_call 16; refine hha.mono ?_; clear hha; rintro e w7 ⟨rfl, h7⟩; subst h7)
            | (go_at_call 17; refine hho.mono ?_; clear hho; rintro e w8 ⟨rfl, hB8⟩; have H8 : Hid (PI w w8 s d mb os S F G X ia ra n ic rcp 60) := H6.out.below hB8; have hop := H8.out.open_ (by omega); clear hB8)
            | (go_at_call 9; refine hop.mono ?_; clear hop; rintro e w9 ⟨s9, rfl, hB9, hbx9, hh9⟩; obtain ⟨c4, c5⟩ := hbx9.cell; clear hbx9)
            | (go_at_call 17; refine hh9.mono ?_; clear hh9; rintro e w10 ⟨rfl, hB10⟩)
          go_ret
          exact ⟨rfl, hB9.trans (hB10.mono hB9.size)⟩
        | some po =>
          obtain ⟨jf, hjf, _, _⟩ := find_fidx hfo
          have hfx : fidxI (oids os) ask = (jf : Int) := by unfold fidxI; rw [hjf]
          have hgt := get_there (wr.alloc (.cells #[.int .i64 kind, .slice ba bn bc, .slice ta tn tc, .int .u64 t, .slice pa pn pc, .string au, .int .i64 dd, .string tx] 41)) s d os _ _ F HT.out.st.st ask ha0 ha1 po hfo
          have hfi := fun W (hP : PI w W s d mb os S F G X ia ra n ic rcp 60) => hP.find_ (by omega) ask
          rw [hfx] at hfi
          have hj0 : ¬ (jf : Int) < 0 := by omega
          clear hfo hfx hjf
          go_wp2_with first
            | (go_at_call 14; refine hgt.mono ?_; clear hgt; rintro e w5 ⟨u5, rfl, _, hB5⟩; have H5 : Hid (PI w w5 s d mb os S F G X ia ra n ic rcp 60) := HT.out.below hB5; obtain ⟨c2, c3⟩ := H5.out.bx.cell; clear hB5)
            | (go_at_call 15; refine (hfi _ H5.out).mono ?_; clear hfi; rintro e w6 ⟨rfl, hB6⟩; have H6 : Hid (PI w w6 s d mb os S F G X ia ra n ic rcp 60) := H5.out.below hB6; have hho := H6.out.holds_ (by omega); obtain ⟨c4, c5⟩ := H6.out.bx.cell; clear hB6)
            | (go_at_call 17; refine hho.mono ?_; clear hho; rintro e w8 ⟨rfl, hB8⟩; have H8 : Hid (PI w w8 s d mb os S F G X ia ra n ic rcp 60) := H6.out.below hB8; have hop := H8.out.open_ (by omega); clear hB8)
            | (go_at_call 9; refine hop.mono ?_; clear hop; rintro e w9 ⟨s9, rfl, hB9, hbx9, hh9⟩; obtain ⟨c6, c7⟩ := hbx9.cell; clear hbx9)
            | (go_at_call 17; refine hh9.mono ?_; clear hh9; rintro e w10 ⟨rfl, hB10⟩)
          go_ret
          exact ⟨rfl, hB9.trans (hB10.mono hB9.size)⟩
      · have i4 : ¬ (k : Int) = 60 := by omega
        have HPA : Hid (PI w (wr.alloc (.cells #[.int .i64 kind, .slice ba bn bc, .slice ta tn tc, .int .u64 t, .slice pa pn pc, .string au, .int .i64 dd, .string tx] 41)) s d mb os S F G X ia ra n ic rcp k) := H.out.below ((Below.refl _ wr).alloc (Nat.le_refl _) _)
        have HTH : Hid (ThAt (wr.alloc (.cells #[.int .i64 kind, .slice ba bn bc, .slice ta tn tc, .int .u64 t, .slice pa pn pc, .string au, .int .i64 dd, .string tx] 41)) ⟨kind, ba, bn, bc, bl, ta, tn, tc, tl, t, pa, pn, pc, ps, au, dd, tx⟩) := hth.below (H.out.bel.alloc H.out.bel.size _)
        have HBX : Hid (BoxT (wr.alloc (.cells #[.int .i64 kind, .slice ba bn bc, .slice ta tn tc, .int .u64 t, .slice pa pn pc, .string au, .int .i64 dd, .string tx] 41)) wr.heap.size ⟨kind, ba, bn, bc, bl, ta, tn, tc, tl, t, pa, pn, pc, ps, au, dd, tx⟩) := World.alloc_heap_new wr _
        have hby := tbytes_any _ _ HTH.out
        have HM : Hid (m - (intOf (Value.int .i64 ((k : Int) + 1))).toNat < m - (intOf (Value.int .i64 (k : Int))).toNat) := (by simp [intOf]; omega : m - (intOf (Value.int .i64 ((k : Int) + 1))).toNat < m - (intOf (Value.int .i64 (k : Int))).toNat)
        have HREL : Hid (∀ (W : World) (os : List Ob) (S : DG) (F G X : Nat → Prop) (ia ra : Option Addr) (n ic rcp : Nat), PI w W s d mb os S F G X ia ra n ic rcp (k + 1) → ∃ (k' : Nat) (os : List Ob) (S : DG) (F G X : Nat → Prop) (ia ra : Option Addr) (n ic rcp : Nat), k' ≤ m ∧ k' ≤ 60 ∧ Value.int .i64 ((k : Int) + 1) = .int .i64 (k' : Int) ∧ Hid (PI w W s d mb os S F G X ia ra n ic rcp k')) := fun W os S F G X ia ra n ic rcp h => ⟨k + 1, os, S, F, G, X, ia, ra, n, ic, rcp, by omega, by omega, by simp, h⟩
        clear H hth
        obtain ⟨E0, hE0⟩ : ∃ E0, E0 = Th.err ⟨kind, ba, bn, bc, bl, ta, tn, tc, tl, t, pa, pn, pc, ps, au, dd, tx⟩ := ⟨_, rfl⟩
        obtain ⟨BT, hBT⟩ : ∃ BT, BT = Th.bytes ⟨kind, ba, bn, bc, bl, ta, tn, tc, tl, t, pa, pn, pc, ps, au, dd, tx⟩ := ⟨_, rfl⟩
        obtain ⟨BN, hBN⟩ : ∃ BN, BN = BT.length := ⟨_, rfl⟩
        have HBN : Hid (BT.length = BN) := hBN.symm
        rw [← hE0, ← hBT] at hby
        unfold Th.vals at hby
        simp only at hby
        cases hob' : Th.ob ⟨kind, ba, bn, bc, bl, ta, tn, tc, tl, t, pa, pn, pc, ps, au, dd, tx⟩ with
        | none =>
          have HOB : Hid (Th.ob ⟨kind, ba, bn, bc, bl, ta, tn, tc, tl, t, pa, pn, pc, ps, au, dd, tx⟩ = none) := hob'
          have e0 : E0 = 160 := by rw [hE0]; unfold Th.err; rw [hob']
          subst e0
          clear hE0 hBT hBN hob'
          go_wp2_with first
            | (go_at_call 10; refine hby.mono ?_; clear hby; rintro e w1 ⟨v1, rfl, ho1, hB1⟩; obtain ⟨va, vc, hv1, hn1⟩ := ho1.shape (n := BN) HBN.out; subst hv1; have hbx1 : BoxT w1 wr.heap.size ⟨kind, ba, bn, bc, bl, ta, tn, tc, tl, t, pa, pn, pc, ps, au, dd, tx⟩ := (hB1.block _ (by simp)).trans HBX.out; obtain ⟨d0, d1, d2, d3, d4, d5, d6, d7⟩ := hbx1.cell; have H1 : Hid (PI w w1 s d mb os S F G X ia ra n ic rcp k) := HPA.out.below hB1; have HO1 : Hid (OwnB (wr.heap.size + 1) BT (.slice va BN vc) w1) := own_low ho1 (by simp); have hob := tobject_any w1 ⟨kind, ba, bn, bc, bl, ta, tn, tc, tl, t, pa, pn, pc, ps, au, dd, tx⟩ (HTH.out.below hB1); have hs1 : wr.heap.size + 1 ≤ w1.heap.size := (by have := hB1.size; simpa using this); have HS1 : Hid (wr.heap.size + 1 ≤ w1.heap.size) := hs1; clear hs1; rw [HOB.out] at hob; clear ho1 hB1 hbx1)
            | (go_at_call 12; refine hob.mono ?_; clear hob; rintro e w2 ⟨v2, rfl, ho2, hB2⟩; have H2 : Hid (PI w w2 s d mb os S F G X ia ra n ic rcp k) := H1.out.below hB2; have HO2 : Hid _ := ho2; have HB2 : Hid (Below w1.heap.size w1 w2) := hB2; clear ho2 hB2 d0 d1 d2 d3 d4 d5 d6 d7)
            | (go_at_call 11; obtain rfl : v2 = .nilIface := HO2.out; refine (sput_nilob w2 s).mono ?_; rintro e w3 ⟨rfl, hB3⟩; have H3 : Hid (PI w w3 s d mb os S F G X ia ra n ic rcp (k + 1)) := (H2.out.below hB3).next; clear hB3)
          exact ⟨HREL.out _ _ _ _ _ _ _ _ _ _ _ H3.out, HM.out⟩
        | some o =>
          have HOB : Hid (Th.ob ⟨kind, ba, bn, bc, bl, ta, tn, tc, tl, t, pa, pn, pc, ps, au, dd, tx⟩ = some o) := hob'
          have e0 : E0 = obErr o := by rw [hE0]; unfold Th.err; rw [hob']
          by_cases h0 : obErr o = 0
          · have e1 : E0 = 0 := by rw [e0, h0]
            have e2 : BT = obB o := by rw [hBT]; unfold Th.bytes; rw [hob']; simp only [if_pos h0]
            subst e1
            have HBT : Hid (BT = obB o) := e2
            have HBN2 : Hid (BN = (obB o).length) := (by rw [hBN, e2] : BN = (obB o).length)
            clear hE0 hBT e0 hob' hBN e2
            have HOK : Hid (obErr o = 0) := h0
            clear h0
            cases hfo : findO os (oid o) with
            | some po =>
              obtain ⟨jf, hjf, hjl, hrc⟩ := find_fidx hfo
              have HPUT : Hid (∀ w1 w2 v2, PI w w2 s d mb os S F G X ia ra n ic rcp k → ObN w1 w2 o v2 → Calls Tryz.prog 11 #[.pointer (some ⟨s, 0, none⟩), v2] w2 fun e w' => e = .returned (.tuple #[.int .u64 (if obB po = obB o then oid o else 0), .int .i64 (if obB po = obB o then 0 else 7)]) ∧ Below w2.heap.size w2 w') := fun w1 w2 v2 hP hN => by
                obtain ⟨j', b', M', u', FJ', O', hst⟩ := hP.st.st
                exact sput_there w2 s d j' b' M' u' _ os _ _ FJ' O' F hst v2 o po (hN w2 (fun _ _ _ => rfl)).1 HOK.out hfo
              have HREF : Hid (∀ w3 va vc, PI w w3 s d mb os S F G X ia ra n ic rcp k → OwnB (wr.heap.size + 1) BT (.slice va BN vc) w3 → BN ≤ 16384 → Calls Tryz.prog 13 #[.agg #[.slice ia n ic, .slice ra n rcp], .slice va BN vc] w3 fun e w' => e = .returned (.tuple #[.agg #[.slice ia n ic, .slice ra n rcp], .int .u64 (oid o), .bool (decide (obB po = obB o))]) ∧ Below w3.heap.size w3 w') := fun w3 va vc hP hO hb => by
                have hl := hP.len
                have hc := hP.cnt.1
                have := srefPut_there X ia ra n ic rcp (oids os) (os.map obB) w3 hP.rm (by omega) va BN vc BT (hO.bytes HBN.out) (by unfold maxLen; omega) jf (by rw [HBT.out]; exact hjf) (by omega)
                rw [hrc, HBT.out] at this
                exact this
              clear hfo hjf hjl hrc
              by_cases hpo : obB po = obB o
              · simp only [hpo, if_true, decide_true] at HPUT HREF
                generalize oid o = I at HPUT HREF
                clear hpo
                go_wp2_with first
                  | (go_at_call 10; refine hby.mono ?_; clear hby; rintro e w1 ⟨v1, rfl, ho1, hB1⟩; obtain ⟨va, vc, hv1, hn1⟩ := ho1.shape (n := BN) HBN.out; subst hv1; have hbx1 : BoxT w1 wr.heap.size ⟨kind, ba, bn, bc, bl, ta, tn, tc, tl, t, pa, pn, pc, ps, au, dd, tx⟩ := (hB1.block _ (by simp)).trans HBX.out; obtain ⟨d0, d1, d2, d3, d4, d5, d6, d7⟩ := hbx1.cell; have H1 : Hid (PI w w1 s d mb os S F G X ia ra n ic rcp k) := HPA.out.below hB1; have HO1 : Hid (OwnB (wr.heap.size + 1) BT (.slice va BN vc) w1) := own_low ho1 (by simp); have hob := tobject_any w1 ⟨kind, ba, bn, bc, bl, ta, tn, tc, tl, t, pa, pn, pc, ps, au, dd, tx⟩ (HTH.out.below hB1); have hs1 : wr.heap.size + 1 ≤ w1.heap.size := (by have := hB1.size; simpa using this); have HS1 : Hid (wr.heap.size + 1 ≤ w1.heap.size) := hs1; clear hs1; rw [HOB.out] at hob; clear ho1 hB1 hbx1)
                  | (go_at_call 12; refine hob.mono ?_; clear hob; rintro e w2 ⟨v2, rfl, ho2, hB2⟩; have H2 : Hid (PI w w2 s d mb os S F G X ia ra n ic rcp k) := H1.out.below hB2; have HO2 : Hid _ := ho2; have HB2 : Hid (Below w1.heap.size w1 w2) := hB2; clear ho2 hB2 d0 d1 d2 d3 d4 d5 d6 d7)
                  | (go_at_call 11; refine (HPUT.out w1 w2 v2 H2.out HO2.out).mono ?_; clear HPUT; rintro e w3 ⟨rfl, hB3⟩; have H3 : Hid (PI w w3 s d mb os S F G X ia ra n ic rcp k) := H2.out.below hB3; have HO3 : Hid (OwnB (wr.heap.size + 1) BT (.slice va BN vc) w3) := ⟨row_keep HO1.out.row (HB2.out.trans (hB3.mono HB2.out.size))⟩; have HLN : Hid (BN ≤ 16384) := (by have h := obB_len (HO2.out w2 (fun _ _ _ => rfl)).1 HOK.out; have h' := HBN2.out; exact h' ▸ h); obtain ⟨z0, z1⟩ := H3.out.bx.cell; clear hB3)
                  | (go_at_call 13; refine (HREF.out w3 va vc H3.out HO3.out HLN.out).mono ?_; clear HREF; rintro e w4 ⟨rfl, hB4⟩; have H4 : Hid (PI w w4 s d mb os S F G X ia ra n ic rcp k) := H3.out.below hB4; obtain ⟨y0, y1⟩ := H4.out.bx.cell; obtain ⟨f0, f1⟩ := H4.out.bx.frozen; have hmb4 := H4.out.bx.lt; clear hB4 z0 z1)
                exact ⟨HREL.out _ _ _ _ _ _ _ _ _ _ _ (H4.out.same.next.below ((Below.refl _ _).alloc (Nat.le_refl _) _)), HM.out⟩
              · simp only [if_neg hpo, decide_eq_false hpo] at HPUT HREF
                generalize oid o = I at HPUT HREF
                clear hpo
                go_wp2_with first
                  | (go_at_call 10; refine hby.mono ?_; clear hby; rintro e w1 ⟨v1, rfl, ho1, hB1⟩; obtain ⟨va, vc, hv1, hn1⟩ := ho1.shape (n := BN) HBN.out; subst hv1; have hbx1 : BoxT w1 wr.heap.size ⟨kind, ba, bn, bc, bl, ta, tn, tc, tl, t, pa, pn, pc, ps, au, dd, tx⟩ := (hB1.block _ (by simp)).trans HBX.out; obtain ⟨d0, d1, d2, d3, d4, d5, d6, d7⟩ := hbx1.cell; have H1 : Hid (PI w w1 s d mb os S F G X ia ra n ic rcp k) := HPA.out.below hB1; have HO1 : Hid (OwnB (wr.heap.size + 1) BT (.slice va BN vc) w1) := own_low ho1 (by simp); have hob := tobject_any w1 ⟨kind, ba, bn, bc, bl, ta, tn, tc, tl, t, pa, pn, pc, ps, au, dd, tx⟩ (HTH.out.below hB1); have hs1 : wr.heap.size + 1 ≤ w1.heap.size := (by have := hB1.size; simpa using this); have HS1 : Hid (wr.heap.size + 1 ≤ w1.heap.size) := hs1; clear hs1; rw [HOB.out] at hob; clear ho1 hB1 hbx1)
                  | (go_at_call 12; refine hob.mono ?_; clear hob; rintro e w2 ⟨v2, rfl, ho2, hB2⟩; have H2 : Hid (PI w w2 s d mb os S F G X ia ra n ic rcp k) := H1.out.below hB2; have HO2 : Hid _ := ho2; have HB2 : Hid (Below w1.heap.size w1 w2) := hB2; clear ho2 hB2 d0 d1 d2 d3 d4 d5 d6 d7)
                  | (go_at_call 11; refine (HPUT.out w1 w2 v2 H2.out HO2.out).mono ?_; clear HPUT; rintro e w3 ⟨rfl, hB3⟩; have H3 : Hid (PI w w3 s d mb os S F G X ia ra n ic rcp k) := H2.out.below hB3; have HO3 : Hid (OwnB (wr.heap.size + 1) BT (.slice va BN vc) w3) := ⟨row_keep HO1.out.row (HB2.out.trans (hB3.mono HB2.out.size))⟩; have HLN : Hid (BN ≤ 16384) := (by have h := obB_len (HO2.out w2 (fun _ _ _ => rfl)).1 HOK.out; have h' := HBN2.out; exact h' ▸ h); obtain ⟨z0, z1⟩ := H3.out.bx.cell; clear hB3)
                  | (go_at_call 13; refine (HREF.out w3 va vc H3.out HO3.out HLN.out).mono ?_; clear HREF; rintro e w4 ⟨rfl, hB4⟩; have H4 : Hid (PI w w4 s d mb os S F G X ia ra n ic rcp k) := H3.out.below hB4; clear hB4)
                exact ⟨HREL.out _ _ _ _ _ _ _ _ _ _ _ (H4.out.next.below ((Below.refl _ _).alloc (Nat.le_refl _) _)), HM.out⟩
            | none =>
              have HSZ : Hid (mb < wr.heap.size + 1 ∧ ∀ z, F z ∨ G z → z < wr.heap.size + 1) := by
                have h1 := HPA.out.bx.lt
                rw [World.size_alloc] at h1
                exact ⟨h1, fun z hz => by have h2 := HPA.out.lt z hz; rw [World.size_alloc] at h2; exact h2⟩
              have HPUT : Hid (∀ w1 w2 v2, PI w w1 s d mb os S F G X ia ra n ic rcp k → PI w w2 s d mb os S F G X ia ra n ic rcp k → ObN w1 w2 o v2 → Calls Tryz.prog 11 #[.pointer (some ⟨s, 0, none⟩), v2] w2 fun e w3 => e = .returned (.tuple #[.int .u64 (oid o), .int .i64 0]) ∧ Turn (fun k => F k ∨ G k) w2 w3 ∧ ∃ S' F' G', StG w3 s d (os ++ [o]) S' F' G' ∧ (∀ k, F' k → F k ∨ w2.heap.size ≤ k) ∧ (∀ k, G' k → G k ∨ w2.heap.size ≤ k)) := fun w1 w2 v2 hP1 hP2 hN => by
                have hl := hP2.len
                obtain ⟨c1, c2⟩ := hP2.cnt
                have hkm : k * 16402 ≤ 60 * 16402 := Nat.mul_le_mul hk60 (Nat.le_refl _)
                have hrb := (recB_pos (obB o)).2
                have hob2 := obB_len (hN w2 (fun _ _ _ => rfl)).1 HOK.out
                exact sput_good w2 s d os S F G hP2.st v2 o (fun W hT => hN W (fun z h1 h2 => hT.block z h2 (fun hz => by have := hP1.lt z hz; omega))) HOK.out hfo (by omega) (by omega)
              have HREF : Hid (∀ w1 w2 w3 va vc, PI w w1 s d mb os S F G X ia ra n ic rcp k → OwnB (wr.heap.size + 1) BT (.slice va BN vc) w1 → Below w1.heap.size w1 w2 → PI w w2 s d mb os S F G X ia ra n ic rcp k → Turn (fun k => F k ∨ G k) w2 w3 → BN ≤ 16384 → BoxM w3 mb (.slice ia n ic) (.slice ra n rcp) ∧ Calls Tryz.prog 13 #[.agg #[.slice ia n ic, .slice ra n rcp], .slice va BN vc] w3 fun e w4 => PutNew X (fun z => wr.heap.size + 1 ≤ z ∧ z < w1.heap.size) w3 w4 n (oids os) (os.map obB) BT (oid o) e) := fun w1 w2 w3 va vc hP1 hO hB2 hP2 hT hb => by
                have hl := hP2.len
                have hc := hP2.cnt.1
                have hs2 := hB2.size
                have hs3 := hT.size
                have hbx : BytesX (fun z => wr.heap.size + 1 ≤ z ∧ z < w1.heap.size) w3 va BN BT := fun W hW => by
                  have hr : W.ownsRow (wr.heap.size + 1) 5 1 (.slice va BN vc) BT.length (cellsOf BT) := row_moved hO.row (fun g hg => by
                    obtain ⟨h1, h2, _⟩ := row_block hO.row g hg
                    exact (hW g ⟨h1, h2⟩).trans ((hT.block g (by omega) (fun hz => by have := HSZ.out.2 g hz; omega)).trans (hB2.block g h2)))
                  exact OwnB.bytes ⟨hr⟩ HBN.out
                have := srefPut_new X (fun z => wr.heap.size + 1 ≤ z ∧ z < w1.heap.size) ia ra n ic rcp (oids os) (os.map obB) w3 (hP2.rm.turn hT (fun z hz => (hP2.xq z hz).1)) (by omega) va BN vc BT hbx (fun z hz => by omega) (by unfold maxLen; omega) (by rw [HBT.out]; exact find_none_fidx hfo)
                have e : idOf BT = oid o := by rw [HBT.out]; rfl
                rw [e] at this
                exact ⟨hP2.bx.turn hT (fun e => (hP2.q _ e).2 rfl), this⟩
              have HFO : Hid (findO os (oid o) = none) := hfo
              obtain ⟨I, hI⟩ : ∃ I, I = oid o := ⟨_, rfl⟩
              rw [← hI] at HPUT HREF
              have HI : Hid (I = oid o) := hI
              clear hfo hI
              unfold PutNew at HREF
              go_wp2_with first
                | (go_at_call 10; refine hby.mono ?_; clear hby; rintro e w1 ⟨v1, rfl, ho1, hB1⟩; obtain ⟨va, vc, hv1, hn1⟩ := ho1.shape (n := BN) HBN.out; subst hv1; have hbx1 : BoxT w1 wr.heap.size ⟨kind, ba, bn, bc, bl, ta, tn, tc, tl, t, pa, pn, pc, ps, au, dd, tx⟩ := (hB1.block _ (by simp)).trans HBX.out; obtain ⟨d0, d1, d2, d3, d4, d5, d6, d7⟩ := hbx1.cell; have H1 : Hid (PI w w1 s d mb os S F G X ia ra n ic rcp k) := HPA.out.below hB1; have HO1 : Hid (OwnB (wr.heap.size + 1) BT (.slice va BN vc) w1) := own_low ho1 (by simp); have hob := tobject_any w1 ⟨kind, ba, bn, bc, bl, ta, tn, tc, tl, t, pa, pn, pc, ps, au, dd, tx⟩ (HTH.out.below hB1); have hs1 : wr.heap.size + 1 ≤ w1.heap.size := (by have := hB1.size; simpa using this); have HS1 : Hid (wr.heap.size + 1 ≤ w1.heap.size) := hs1; clear hs1; rw [HOB.out] at hob; clear ho1 hB1 hbx1)
                | (go_at_call 12; refine hob.mono ?_; clear hob; rintro e w2 ⟨v2, rfl, ho2, hB2⟩; have H2 : Hid (PI w w2 s d mb os S F G X ia ra n ic rcp k) := H1.out.below hB2; have HO2 : Hid _ := ho2; have HB2 : Hid (Below w1.heap.size w1 w2) := hB2; clear ho2 hB2 d0 d1 d2 d3 d4 d5 d6 d7)
                | (go_at_call 11; refine (HPUT.out w1 w2 v2 H1.out H2.out HO2.out).mono ?_; clear HPUT; rintro e w3 ⟨rfl, hT3, S', F', G', hS3, hF3, hG3⟩; have HLN : Hid ((obB o).length ≤ 16384 ∧ decG (obB o) = some o) := ob_ok (HO2.out w2 (fun _ _ _ => rfl)).1 HOK.out; have hrf := HREF.out w1 w2 w3 va vc H1.out HO1.out HB2.out H2.out hT3 (HBN2.out ▸ HLN.out.1); obtain ⟨z0, z1⟩ := hrf.1.cell; have hrf2 := hrf.2; have hbx3 : Hid (BoxM w3 mb (.slice ia n ic) (.slice ra n rcp)) := hrf.1; have HS3 : Hid (StG w3 s d (os ++ [o]) S' F' G' ∧ Turn (fun k => F k ∨ G k) w2 w3 ∧ (∀ k, F' k → F k ∨ w2.heap.size ≤ k) ∧ (∀ k, G' k → G k ∨ w2.heap.size ≤ k)) := ⟨hS3, hT3, hF3, hG3⟩; clear hS3 hT3 hF3 hG3 hrf HREF)
                | (go_at_call 13; refine hrf2.mono ?_; clear hrf2; rintro e w4 ⟨ia', ic', ra', rcp', rfl, hrm4, hB4⟩; have bx4 := hbx3.out.turn (Turn.of_below (fun _ => False) hB4) id; obtain ⟨y0, y1⟩ := bx4.cell; obtain ⟨f0, f1⟩ := bx4.frozen; have hmb4 := bx4.lt; have H4 : Hid _ := H2.out.add (Xb := fun z => wr.heap.size + 1 ≤ z ∧ z < w1.heap.size) (ic' := ic') (rcp' := rcp') HS3.out.1 HS3.out.2.1 HS3.out.2.2.1 HS3.out.2.2.2 (fun z hz => ⟨fun e => by have h1 := HSZ.out.2 z e; have h2 : wr.heap.size + 1 ≤ z := hz.1; omega, by have h1 := HSZ.out.1; have h2 : wr.heap.size + 1 ≤ z := hz.1; omega, Nat.lt_of_lt_of_le hz.2 HB2.out.size⟩) hB4 (by rw [HI.out, HBT.out] at hrm4; exact hrm4) HOK.out HLN.out.2 HFO.out HLN.out.1; clear hB4 z0 z1 hrm4 bx4)
              exact ⟨HREL.out _ _ _ _ _ _ _ _ _ _ _ (H4.out.below ((Below.refl _ _).alloc (Nat.le_refl _) _)), HM.out⟩
          · have h0b : (E0 == 0) = false := by rw [e0]; exact beq_eq_false_iff_ne.2 h0
            have HBAD : Hid (∀ w1 w2 v2, ObN w1 w2 o v2 → Calls Tryz.prog 11 #[.pointer (some ⟨s, 0, none⟩), v2] w2 fun e w' => e = .returned (.tuple #[.int .u64 0, .int .i64 E0]) ∧ Below w2.heap.size w2 w') := fun w1 w2 v2 hN => by rw [e0]; exact sput_bad w2 s v2 o (hN w2 (fun _ _ _ => rfl)).1 h0
            clear hE0 hBT hBN hob' e0 h0
            go_wp2_with first
              | (go_at_call 10; refine hby.mono ?_; clear hby; rintro e w1 ⟨v1, rfl, ho1, hB1⟩; obtain ⟨va, vc, hv1, hn1⟩ := ho1.shape (n := BN) HBN.out; subst hv1; have hbx1 : BoxT w1 wr.heap.size ⟨kind, ba, bn, bc, bl, ta, tn, tc, tl, t, pa, pn, pc, ps, au, dd, tx⟩ := (hB1.block _ (by simp)).trans HBX.out; obtain ⟨d0, d1, d2, d3, d4, d5, d6, d7⟩ := hbx1.cell; have H1 : Hid (PI w w1 s d mb os S F G X ia ra n ic rcp k) := HPA.out.below hB1; have HO1 : Hid (OwnB (wr.heap.size + 1) BT (.slice va BN vc) w1) := own_low ho1 (by simp); have hob := tobject_any w1 ⟨kind, ba, bn, bc, bl, ta, tn, tc, tl, t, pa, pn, pc, ps, au, dd, tx⟩ (HTH.out.below hB1); have hs1 : wr.heap.size + 1 ≤ w1.heap.size := (by have := hB1.size; simpa using this); have HS1 : Hid (wr.heap.size + 1 ≤ w1.heap.size) := hs1; clear hs1; rw [HOB.out] at hob; clear ho1 hB1 hbx1)
              | (go_at_call 12; refine hob.mono ?_; clear hob; rintro e w2 ⟨v2, rfl, ho2, hB2⟩; have H2 : Hid (PI w w2 s d mb os S F G X ia ra n ic rcp k) := H1.out.below hB2; have HO2 : Hid _ := ho2; have HB2 : Hid (Below w1.heap.size w1 w2) := hB2; clear ho2 hB2 d0 d1 d2 d3 d4 d5 d6 d7)
              | (go_at_call 11; refine (HBAD.out w1 w2 v2 HO2.out).mono ?_; rintro e w3 ⟨rfl, hB3⟩; have H3 : Hid (PI w w3 s d mb os S F G X ia ra n ic rcp (k + 1)) := (H2.out.below hB3).next; clear hB3)
            exact ⟨HREL.out _ _ _ _ _ _ _ _ _ _ _ H3.out, HM.out⟩
    · have i1 : ¬ (k : Int) < (m : Int) := by omega
      have HT : Hid (PI w wr s d mb os S F G X ia ra n ic rcp k) := H
      clear H
      obtain ⟨q0, q1⟩ := HT.out.bx.cell
      cases hfo : findO os ask with
      | none =>
        have hfx : fidxI (oids os) ask = -1 := by unfold fidxI; rw [find_none_fidx hfo]
        have hgt := get_not wr s d os _ _ F HT.out.st.st ask ha0 ha1 hfo
        have hfi := HT.out.find_ hk60 ask
        rw [hfx] at hfi
        have HFO : Hid (findO os ask = none) := hfo
        clear hfo hfx
        go_wp2_with first
          | (go_at_call 14; refine hgt.mono ?_; clear hgt; rintro e w5 ⟨rfl, h5⟩; subst h5)
          | (go_at_call 15; refine hfi.mono ?_; clear hfi; rintro e w6 ⟨rfl, hB6⟩; have H6 : Hid (PI w w6 s d mb os S F G X ia ra n ic rcp k) := HT.out.below hB6; have hha := has_any w6 s d os _ _ F H6.out.st.st ask ha0 ha1; rw [HFO.out] at hha; have hho := H6.out.holds_ hk60; obtain ⟨q2, q3⟩ := H6.out.bx.cell; clear hB6)
          | (go_at_call 16; refine hha.mono ?_; clear hha; rintro e w7 ⟨rfl, h7⟩; subst h7)
          | (go_at_call 17; refine hho.mono ?_; clear hho; rintro e w8 ⟨rfl, hB8⟩; have H8 : Hid (PI w w8 s d mb os S F G X ia ra n ic rcp k) := H6.out.below hB8; have hop := H8.out.open_ hk60; clear hB8)
          | (go_at_call 9; refine hop.mono ?_; clear hop; rintro e w9 ⟨s9, rfl, hB9, hbx9, hh9⟩; obtain ⟨q4, q5⟩ := hbx9.cell; clear hbx9)
          | (go_at_call 17; refine hh9.mono ?_; clear hh9; rintro e w10 ⟨rfl, hB10⟩)
        go_ret
        exact ⟨rfl, hB9.trans (hB10.mono hB9.size)⟩
      | some po =>
        obtain ⟨jf, hjf, _, _⟩ := find_fidx hfo
        have hfx : fidxI (oids os) ask = (jf : Int) := by unfold fidxI; rw [hjf]
        have hgt := get_there wr s d os _ _ F HT.out.st.st ask ha0 ha1 po hfo
        have hfi := fun W (hP : PI w W s d mb os S F G X ia ra n ic rcp k) => hP.find_ hk60 ask
        rw [hfx] at hfi
        have hj0 : ¬ (jf : Int) < 0 := by omega
        clear hfo hfx hjf
        go_wp2_with first
          | (go_at_call 14; refine hgt.mono ?_; clear hgt; rintro e w5 ⟨u5, rfl, _, hB5⟩; have H5 : Hid (PI w w5 s d mb os S F G X ia ra n ic rcp k) := HT.out.below hB5; obtain ⟨q2, q3⟩ := H5.out.bx.cell; clear hB5)
          | (go_at_call 15; refine (hfi _ H5.out).mono ?_; clear hfi; rintro e w6 ⟨rfl, hB6⟩; have H6 : Hid (PI w w6 s d mb os S F G X ia ra n ic rcp k) := H5.out.below hB6; have hho := H6.out.holds_ hk60; obtain ⟨q4, q5⟩ := H6.out.bx.cell; clear hB6)
          | (go_at_call 17; refine hho.mono ?_; clear hho; rintro e w8 ⟨rfl, hB8⟩; have H8 : Hid (PI w w8 s d mb os S F G X ia ra n ic rcp k) := H6.out.below hB8; have hop := H8.out.open_ hk60; clear hB8)
          | (go_at_call 9; refine hop.mono ?_; clear hop; rintro e w9 ⟨s9, rfl, hB9, hbx9, hh9⟩; obtain ⟨q6, q7⟩ := hbx9.cell; clear hbx9)
          | (go_at_call 17; refine hh9.mono ?_; clear hh9; rintro e w10 ⟨rfl, hB10⟩)
        go_ret
        exact ⟨rfl, hB9.trans (hB10.mono hB9.size)⟩
end Go.Proofs.YthalpnpnbclipaaGreat
