import Derived.Test.YtncagdfbgpdhfaaGreatR47
import Derived.Test.YtncagdfbgpdhfaaGreatR48
/- The walk of the law ParentsBases (genbases.py). -/
namespace Go.Proofs.YtncagdfbgpdhfaaGreat
open Go.RowKit Go.Maps

attribute [local go_sem] Oper.semAt_some

theorem lit_ints2 (W : World) (x y : Int) (fz : Nat × Nat) (t : TypeId) : Ints (W.alloc (.cells #[.int .i64 x, .int .i64 y] t fz)) (some ⟨W.heap.size, 0, none⟩) 2 [x, y] := by
  have hb := World.alloc_heap_new W (.cells #[.int .i64 x, .int .i64 y] t fz)
  generalize W.alloc (.cells #[.int .i64 x, .int .i64 y] t fz) = W' at hb
  refine ⟨rfl, fun _ => ⟨W.heap.size, 0, rfl, fun i u hi => ?_⟩⟩
  match i, hi with
  | 0, hi => simp at hi; subst hi; simp [World.cell?, hb]
  | 1, hi => simp at hi; subst hi; simp [World.cell?, hb]
theorem lit_id1P (W : World) (x : Int) : Ids (W.alloc (.cells #[.int .u64 x] 31)) (some ⟨W.heap.size, 0, none⟩) 1 [x] := by
  have hb := World.alloc_heap_new W (.cells #[.int .u64 x] 31)
  generalize W.alloc (.cells #[.int .u64 x] 31) = W' at hb
  refine ⟨rfl, fun _ => ⟨W.heap.size, 0, rfl, fun i z hi => ?_⟩⟩
  match i, hi with
  | 0, hi => simp at hi; subst hi; simp [World.cell?, hb]
set_option maxRecDepth 100000 in
set_option maxHeartbeats 8000000 in
theorem parentsBases_walk (w : World) (a : Option Addr) (n c : Nat) (l : List BornD) (hl : Brs12 w a n l) (hn : n ≤ 9223372036854775807) (p q : Int) (hp : -9223372036854775808 ≤ p ∧ p ≤ 9223372036854775807) (hq : -9223372036854775808 ≤ q ∧ q ≤ 9223372036854775807) :
    Calls Tryz.prog 7 #[.slice a n c, .int .i64 p, .int .i64 q] w fun e w' => e = .returned (.bool true) ∧ Below w.heap.size w w' := by
  have hw1 := wakes12_any w
  have HA : Hid (Brs12 w a n l) := hl
  have HPQ : Hid ((-9223372036854775808 ≤ p ∧ p ≤ 9223372036854775807) ∧ (-9223372036854775808 ≤ q ∧ q ≤ 9223372036854775807)) := ⟨hp, hq⟩
  have hmx : Tryz.prog.follows .mixedOrders = true := by kernel_rfl
  clear hl hp hq
  cases hG : bornQ l with
  | none =>
    go_enter Tryz.func7, Tryz.ntmps7
    go_wp2_with fail
    refine hw1.mono ?_
    clear hw1
    rintro e w1 ⟨rfl, hB1⟩
    have hbo := born12_any w1 a n c l (HA.out.below hB1) hn
    rw [hG] at hbo
    have H1 : Hid (Below w.heap.size w w1) := hB1
    clear hB1
    go_wp2_with fail
    refine hbo.mono ?_
    clear hbo
    rintro e w2 ⟨hB2, he⟩
    have he' : e = .returned (.tuple #[.pointer none, .bool false]) := he
    subst he'
    have H2 : Hid (Below w.heap.size w w2) := H1.out.trans (hB2.mono H1.out.size)
    clear hB2 he
    have hw3 := wakes12_any w2
    go_wp2_with fail
    refine hw3.mono ?_
    clear hw3
    rintro e w3 ⟨rfl, hB3⟩
    have H3 : Hid (Below w.heap.size w w3) := H2.out.trans (hB3.mono H2.out.size)
    clear hB3
    go_wp2
    go_ret
    exact ⟨rfl, H3.out⟩
  | some st =>
    go_enter Tryz.func7, Tryz.ntmps7
    go_wp2_with fail
    refine hw1.mono ?_
    clear hw1
    rintro e w1 ⟨rfl, hB1⟩
    have hbo := born12_any w1 a n c l (HA.out.below hB1) hn
    rw [hG] at hbo
    have H1 : Hid (Below w.heap.size w w1) := hB1
    clear hB1 hG
    go_wp2_with fail
    refine hbo.mono ?_
    clear hbo
    rintro e w2 ⟨hB2, hb, s, d, S, F, G, X, nv, iv, ns, he, hI, ho5, hi5, hn5⟩
    subst he
    have H2 : Hid (Below w.heap.size w w2) := H1.out.trans (hB2.mono H1.out.size)
    obtain ⟨ia, ic, hiv, hEnv⟩ := hI.env
    have HI2 : Hid (Ok12 st ∧ st.ids.length ≤ 20 ∧ st.os.length ≤ 65536) := ⟨hI.ok, hi5, by omega⟩
    have HEv : Hid (∀ W, Below w2.heap.size w2 W → (W.cell? ⟨hb, 0, none⟩ = some (.pointer (some ⟨s, 0, none⟩)) ∧ W.cell? ⟨hb, 2, none⟩ = some (.slice ia st.ids.length ic)) ∧ Ids W ia st.ids.length st.ids ∧ IsSt W s d st.os (fileB (st.os.map obB)).length false F) := hEnv
    clear hB2 hI hi5 ho5 hn5 hEnv hiv
    have H2a : Hid (Below w2.heap.size w2 (w2.alloc (.cells #[.int .i64 p, .int .i64 q] 3))) := (Below.refl _ w2).alloc (Nat.le_refl _) _
    obtain ⟨⟨c0, c2⟩, hids, _⟩ := HEv.out _ H2a.out
    have hso := some12_any (w2.alloc (.cells #[.int .i64 p, .int .i64 q] 3)) hb st.ids.length ic ia st.ids c2 hids (by have := HI2.out.2.1; omega) (some ⟨w2.heap.size, 0, none⟩) 2 2 [p, q] (lit_ints2 w2 p q (0, 0) _) (by omega) (fun z hz => by simp at hz; rcases hz with rfl | rfl; exact HPQ.out.1; exact HPQ.out.2)
    have HLr : Hid (∀ z ∈ someG st.ids [p, q], 0 ≤ z ∧ z ≤ 18446744073709551615) := someG_rng (fun i hi => (HI2.out.1.rng i hi).2) [p, q]
    have hsg : someG st.ids [p, q] = [someId st.ids p, someId st.ids q] := rfl
    rw [hsg] at hso HLr
    generalize someId st.ids p = x at *
    generalize someId st.ids q = y at *
    have HR2 : Hid ((0 ≤ x ∧ x ≤ 18446744073709551615) ∧ (0 ≤ y ∧ y ≤ 18446744073709551615)) := ⟨HLr.out x (by simp), HLr.out y (by simp)⟩
    have e2 : ([x, y] : List Int).length = 2 := rfl
    rw [e2] at hso
    clear hsg hids c2 c0 HLr e2
    go_wp2_with fail
    refine hso.mono ?_
    clear hso
    rintro e w3 ⟨la, lc, rfl, hrow3, hB3⟩
    have H3 : Hid (Below w2.heap.size w2 w3) := H2a.out.trans (hB3.mono H2a.out.size)
    obtain ⟨ig, hig⟩ : ∃ ig, la = some ⟨ig, 0, none⟩ := by
      rcases hrow3.2 with ⟨h0, h1⟩ | ⟨g, cap, cur, h0, _⟩
      · simp at h1
      · cases h0; exact ⟨g, rfl⟩
    subst hig
    have q0 : w3.cell? ⟨ig, 0, none⟩ = some (.int .u64 x) := by rw [hrow3.cellAt 0 (by simp)]; rfl
    have q1 : w3.cell? ⟨ig, 1, none⟩ = some (.int .u64 y) := by rw [hrow3.cellAt 1 (by simp)]; rfl
    clear hrow3 hB3
    go_upto_region 7 with fail
    refine wp_region_G (S := SB 1000 (fun _ => True) (fun W => W.cell? ⟨ig, 0, none⟩ = some (.int .u64 x) ∧ W.cell? ⟨ig, 1, none⟩ = some (.int .u64 y))) hmx ?_
    have hSB : SB 1000 (fun _ => True) (fun W => W.cell? ⟨ig, 0, none⟩ = some (.int .u64 x) ∧ W.cell? ⟨ig, 1, none⟩ = some (.int .u64 y)) (Array.replicate 8 false) w3.drew := SB.off (by kernel_rfl) ⟨q0, q1⟩
    refine wpAnyG_takeP (i := 0) (v := ?_) rfl (by kernel_rfl) (by kernel_rfl) (by kernel_rfl) (fun _ _ _ h => h) rfl (Or.inl ⟨by rfl, ?_⟩) (by assumption) ?_
    rotate_left
    · intro Y hY; obtain ⟨f1, f2⟩ := hY; go_simp; try with_reducible rfl
    intro hSB0
    try simp only [Act.put, List.getElem_toArray, List.getElem_cons_zero, List.setIfInBounds_toArray, List.set_cons_zero, List.set_cons_succ]
    refine wpAnyG_takeP (i := 1) (v := ?_) rfl (by kernel_rfl) (by kernel_rfl) (by kernel_rfl) (fun _ _ _ h => h) rfl (Or.inl ⟨by rfl, ?_⟩) (by assumption) ?_
    rotate_left
    · intro Y hY; obtain ⟨f1, f2⟩ := hY; go_simp; try with_reducible rfl
    intro hSB1
    try simp only [Act.put, List.getElem_toArray, List.getElem_cons_zero, List.getElem_cons_succ, List.setIfInBounds_toArray, List.set_cons_zero, List.set_cons_succ]
    refine wpAnyG_takeP (i := 2) (v := ?_) rfl (by kernel_rfl) (by kernel_rfl) (by kernel_rfl) (fun _ _ _ h => h) rfl (Or.inl ⟨by rfl, ?_⟩) (by assumption) ?_
    rotate_left
    · intro Y hY; obtain ⟨f1, f2⟩ := hY; go_simp; try with_reducible rfl
    intro hSB2
    try simp only [Act.put, List.getElem_toArray, List.getElem_cons_zero, List.getElem_cons_succ, List.setIfInBounds_toArray, List.set_cons_zero, List.set_cons_succ]
    refine wpAnyG_takeP (i := 3) (v := ?_) rfl (by kernel_rfl) (by kernel_rfl) (by kernel_rfl) (fun _ _ _ h => h) rfl (Or.inl ⟨by rfl, ?_⟩) (by assumption) ?_
    rotate_left
    · intro Y hY; obtain ⟨f1, f2⟩ := hY; go_simp; try with_reducible rfl
    intro hSB3
    try simp only [Act.put, List.getElem_toArray, List.getElem_cons_zero, List.getElem_cons_succ, List.setIfInBounds_toArray, List.set_cons_zero, List.set_cons_succ]
    refine wpAnyG_takeP (i := 4) (v := ?_) rfl (by kernel_rfl) (by kernel_rfl) (by kernel_rfl) (fun _ _ _ h => h) rfl (Or.inl ⟨by rfl, ?_⟩) (by assumption) ?_
    rotate_left
    · intro Y hY; obtain ⟨f1, f2⟩ := hY; go_simp; try with_reducible rfl
    intro hSB4
    try simp only [Act.put, List.getElem_toArray, List.getElem_cons_zero, List.getElem_cons_succ, List.setIfInBounds_toArray, List.set_cons_zero, List.set_cons_succ]
    refine wpAnyG_takeP (i := 5) (v := ?_) rfl (by kernel_rfl) (by kernel_rfl) (by kernel_rfl) (fun _ _ _ h => h) rfl (Or.inl ⟨by rfl, ?_⟩) (by assumption) ?_
    rotate_left
    · intro Y hY; obtain ⟨f1, f2⟩ := hY; go_simp; try with_reducible rfl
    intro hSB5
    try simp only [Act.put, List.getElem_toArray, List.getElem_cons_zero, List.getElem_cons_succ, List.setIfInBounds_toArray, List.set_cons_zero, List.set_cons_succ]
    refine wpAnyG_takeP (i := 6) (v := ?_) rfl (by kernel_rfl) (by kernel_rfl) (by kernel_rfl) (fun _ _ _ h => h) rfl (Or.inl ⟨by rfl, ?_⟩) (by assumption) ?_
    rotate_left
    · intro Y hY; obtain ⟨f1, f2⟩ := hY; go_simp; try with_reducible rfl
    intro hSB6
    try simp only [Act.put, List.getElem_toArray, List.getElem_cons_zero, List.getElem_cons_succ, List.setIfInBounds_toArray, List.set_cons_zero, List.set_cons_succ]
    refine wpAnyG_takeP (i := 7) (v := ?_) rfl (by kernel_rfl) (by kernel_rfl) (by kernel_rfl) (fun _ _ _ h => h) rfl (Or.inl ⟨by rfl, ?_⟩) (by assumption) ?_
    rotate_left
    · intro Y hY; obtain ⟨f1, f2⟩ := hY; go_simp; try with_reducible rfl
    intro hSB7
    try simp only [Act.put, List.getElem_toArray, List.getElem_cons_zero, List.getElem_cons_succ, List.setIfInBounds_toArray, List.set_cons_zero, List.set_cons_succ]
    refine wpAnyG_done (by kernel_rfl) ?_ _
    have H3d : Hid (Below w2.heap.size w2 w3.drew) := below_drewN H3.out 1
    clear hSB hSB0 hSB1 hSB2 hSB3 hSB4 hSB5 hSB6 hSB7 q0 q1 H3
    generalize w3.drew = w4 at *
    obtain ⟨⟨c0, _⟩, _, hIS⟩ := HEv.out w4 H3d.out
    cases hR : ordG st.os [x, y] GS.none with
    | bad er =>
      have her := ord_bad hR
      have hre := bases_err w4 (some ⟨s, 0, none⟩) x y HR2.out.1 HR2.out.2 er her (fun W' ad hW' hI' => by
        obtain ⟨_, _, hIS⟩ := HEv.out W' (H3d.out.trans (hW'.mono H3d.out.size))
        have h := order_any W' s d st.os _ false F hIS HI2.out.2.2 ad 2 2 [x, y] hI' (fun z hz => by simp at hz; rcases hz with rfl | rfl; exact HR2.out.1; exact HR2.out.2) (by omega) (by omega)
        rw [hR] at h
        exact h.mono fun e w' hh => ⟨hh.2.1, hh.1⟩)
      have her2 : (er == 0) = false := beq_eq_false_iff_ne.2 her
      clear hIS hR her
      go_wp2_with fail
      refine hre.mono ?_
      clear hre
      rintro e w5 ⟨rfl, hB5⟩
      have H5 : Hid (Below w.heap.size w w5) := H2.out.trans ((H3d.out.trans (hB5.mono H3d.out.size)).mono H2.out.size)
      have hw4 := wakes12_any w5
      clear hB5 c0
      go_wp2_with fail
      refine hw4.mono ?_
      clear hw4
      rintro e w6 ⟨rfl, hB6⟩
      have H6 : Hid (Below w.heap.size w w6) := H5.out.trans (hB6.mono H5.out.size)
      clear hB6
      go_wp2
      go_ret
      exact ⟨rfl, H6.out⟩
    | ok g =>
      obtain ⟨g2, hR2⟩ := ord_turn hR
      have hba := bases_ok w4 s d st.os _ false F hIS HI2.out.2.2 x y HR2.out.1 HR2.out.2 g hR
      have HRl : Hid (∀ W, Below w2.heap.size w2 W → Calls Tryz.prog 20 #[.pointer (some ⟨s, 0, none⟩), .int .u64 x, .int .u64 y] W fun e w' => e = .returned (.tuple #[.int .i64 (relP (mrkP st.os g x y) g.ord x y), .int .i64 0]) ∧ Below W.heap.size W w') := fun W hW => relation_ok W s d st.os _ false F (HEv.out W hW).2.2 HI2.out.2.2 x y HR2.out.1 HR2.out.2 g hR
      have HRl2 : Hid (∀ W, Below w2.heap.size w2 W → Calls Tryz.prog 20 #[.pointer (some ⟨s, 0, none⟩), .int .u64 y, .int .u64 x] W fun e w' => e = .returned (.tuple #[.int .i64 (relP (mrkP st.os g2 y x) g2.ord y x), .int .i64 0]) ∧ Below W.heap.size W w') := fun W hW => relation_ok W s d st.os _ false F (HEv.out W hW).2.2 HI2.out.2.2 y x HR2.out.2 HR2.out.1 g2 hR2
      have HAp : Hid (∀ W, Below w2.heap.size w2 W → Calls Tryz.prog 19 #[.pointer (some ⟨s, 0, none⟩), .int .u64 x, .int .u64 y] W fun e w' => e = .returned (.tuple #[.int .i64 ((cntP (mrkP st.os g x y) 1 g.ord : Nat) : Int), .int .i64 ((cntP (mrkP st.os g x y) 2 g.ord : Nat) : Int), .int .i64 0]) ∧ Below W.heap.size W w') := fun W hW => apart_ok W s d st.os _ false F (HEv.out W hW).2.2 HI2.out.2.2 x y HR2.out.1 HR2.out.2 g hR
      have HOr : Hid (∀ W ad, Below w2.heap.size w2 W → Ids W ad 2 [x, y] → Calls Tryz.prog 26 #[.pointer (some ⟨s, 0, none⟩), .slice ad 2 2] W fun e w' => Below W.heap.size W w' ∧ ∃ oa oc, e = .returned (.tuple #[.slice oa g.ord.length oc, .int .i64 0]) ∧ w'.ownsRow W.heap.size 31 1 (.slice oa g.ord.length oc) g.ord.length (g.ord.map (Value.int .u64))) := fun W ad hW hI' => by
        have h := order_any W s d st.os _ false F (HEv.out W hW).2.2 HI2.out.2.2 ad 2 2 [x, y] hI' (fun z hz => by simp at hz; rcases hz with rfl | rfl; exact HR2.out.1; exact HR2.out.2) (by omega) (by omega)
        rw [hR] at h
        exact h
      have HF : Hid (BF st.os x y g.ord (basP st.os g x y) (relP (mrkP st.os g x y) g.ord x y) (relP (mrkP st.os g2 y x) g2.ord y x) (cntP (mrkP st.os g x y) 1 g.ord) (cntP (mrkP st.os g x y) 2 g.ord)) := bases_facts hR hR2
      clear hR hR2 hIS
      generalize relP (mrkP st.os g x y) g.ord x y = r at *
      generalize relP (mrkP st.os g2 y x) g2.ord y x = r2 at *
      generalize cntP (mrkP st.os g x y) 1 g.ord = n1 at *
      generalize cntP (mrkP st.os g x y) 2 g.ord = n2 at *
      generalize basP st.os g x y = B at *
      generalize g.ord = O at *
      have hOl : O.length ≤ 65536 := Nat.le_trans HF.out.lenO HI2.out.2.2
      have hBl : B.length ≤ 65536 := Nat.le_trans HF.out.len hOl
      generalize hOO : O.length = nO at *
      have HOO : Hid (O.length = nO) := hOO
      generalize hBB : B.length = nB at *
      have HBB : Hid (B.length = nB) := hBB
      clear hOO hBB
      go_wp2_with fail
      refine hba.mono ?_
      clear hba c0
      rintro e w5 ⟨⟨ba, bc, rfl, hrow5⟩, hB5⟩
      have H5 : Hid (Below w2.heap.size w2 w5) := H3d.out.trans (hB5.mono H3d.out.size)
      obtain ⟨_, _, ee, hbc, _⟩ := row_shapeN hrow5
      cases ee
      obtain ⟨_, _, ee, hI5⟩ := own_idsG hrow5
      cases ee
      have HBI5 : Hid (Ids w5 ba nB B) := hI5
      obtain ⟨⟨c0, _⟩, _, hIS⟩ := HEv.out w5 H5.out
      obtain ⟨g3, hg3, hr3⟩ := HF.out.red
      have hrd := reduced_ok w5 s d st.os _ false F hIS HI2.out.2.2 ba nB bc B hI5 (fun z hz => HF.out.rngO z (HF.out.sub z hz)) hbc (by omega) g3 hg3
      rw [hr3, decide_eq_true rfl] at hrd
      clear hrow5 hB5 hI5 hIS hg3 hr3
      go_wp2_with fail
      refine hrd.mono ?_
      clear hrd c0
      rintro e w6 ⟨rfl, hB6⟩
      have H6 : Hid (Below w2.heap.size w2 w6) := H5.out.trans (hB6.mono H5.out.size)
      have HBI6 : Hid (Ids w6 ba nB B) := HBI5.out.kept hB6
      clear hB6
      have c0 := (HEv.out w6 H6.out).1.1
      have hrl := HRl.out w6 H6.out
      go_wp2_with fail
      refine hrl.mono ?_
      clear hrl c0
      rintro e w7 ⟨rfl, hB7⟩
      have H7 : Hid (Below w2.heap.size w2 w7) := H6.out.trans (hB7.mono H6.out.size)
      have HBI7 : Hid (Ids w7 ba nB B) := HBI6.out.kept hB7
      clear hB7
      have c0 := (HEv.out w7 H7.out).1.1
      have hap := HAp.out w7 H7.out
      go_wp2_with fail
      refine hap.mono ?_
      clear hap c0
      rintro e w8 ⟨rfl, hB8⟩
      have H8 : Hid (Below w2.heap.size w2 w8) := H7.out.trans (hB8.mono H7.out.size)
      have HBI8 : Hid (Ids w8 ba nB B) := HBI7.out.kept hB8
      clear hB8
      have c0 := (HEv.out w8 H8.out).1.1
      have hrl := HRl2.out w8 H8.out
      go_wp2_with fail
      refine hrl.mono ?_
      clear hrl c0
      rintro e w9 ⟨rfl, hB9⟩
      have H9 : Hid (Below w2.heap.size w2 w9) := H8.out.trans (hB9.mono H8.out.size)
      have HBI9 : Hid (Ids w9 ba nB B) := HBI8.out.kept hB9
      clear hB9
      go_upto_region 17 with fail
      obtain ⟨u1, u2, u3, u4, u5, m1, m2, m3, m4, m5, hIk, hBm⟩ := lit_turn5 w9
      have hmm := @run_makeMap Tryz.prog
      have H10 : Hid (Below w2.heap.size w2 u5 ∧ IkAt u5 w9.heap.size turn5 5) := ⟨H9.out.trans (hBm.mono H9.out.size), hIk⟩
      have HBI10 : Hid (Ids u5 ba nB B) := HBI9.out.kept hBm
      clear hIk hBm
      go_upto_region 18 with fail
      clear m1 m2 m3 m4 m5 hmm
      generalize w9.heap.size = mb at *
      generalize u5 = w10 at *
      clear u1 u2 u3 u4 u5
      go_cut [179] from 134 to 178 (fun v wc => v = .bool false ∧ Hid (wc = w10))
      case first =>
        rcases HF.out.ways with ⟨hr, hr2, hn1, hn2, hB⟩ | ⟨hr, hr2, hn1, hn2, hB⟩ | ⟨hr, hr2, hn1, hn2, hB⟩ | ⟨hr, hr2, hn1, hn2, hB⟩ | ⟨hr, hr2, hn1, hn2, hB⟩
        · have hlk := H10.out.2.look 1 (by decide)
          rw [show turn5 1 = 1 by decide] at hlk
          subst hr hr2 hn1 hn2
          have hb0 : ¬ (nB : Int) = 0 := by
            have h1 := HBB.out
            have h2 := List.length_pos_iff.2 hB
            omega
          have hb1 : ((nB : Int) == 0) = false := beq_eq_false_iff_ne.2 hb0
          clear hB
          go_wp2
          go_meet
          exact ⟨rfl, rfl⟩
        · have hlk := H10.out.2.look 2 (by decide)
          rw [show turn5 2 = 3 by decide] at hlk
          subst hr hr2 hn2
          have hc1 : ¬ (n1 : Int) = 0 := by omega
          have hc2 : ((n1 : Int) == 0) = false := beq_eq_false_iff_ne.2 hc1
          have hc3 : (0 : Int) < (n1 : Int) := by omega
          have hb0 : ¬ (nB : Int) = 0 := by
            have h1 := HBB.out
            rw [hB] at h1
            simp at h1
            omega
          have hb1 : ((nB : Int) == 0) = false := beq_eq_false_iff_ne.2 hb0
          clear hB hn1
          go_wp2
          go_meet
          exact ⟨rfl, rfl⟩
        · have hlk := H10.out.2.look 3 (by decide)
          rw [show turn5 3 = 2 by decide] at hlk
          subst hr hr2 hn1
          have hc1 : ¬ (n2 : Int) = 0 := by omega
          have hc2 : ((n2 : Int) == 0) = false := beq_eq_false_iff_ne.2 hc1
          have hc3 : (0 : Int) < (n2 : Int) := by omega
          have hb0 : ¬ (nB : Int) = 0 := by
            have h1 := HBB.out
            rw [hB] at h1
            simp at h1
            omega
          have hb1 : ((nB : Int) == 0) = false := beq_eq_false_iff_ne.2 hb0
          clear hB hn2
          go_wp2
          go_meet
          exact ⟨rfl, rfl⟩
        · have hlk := H10.out.2.look 4 (by decide)
          rw [show turn5 4 = 4 by decide] at hlk
          subst hr hr2
          have hc1 : ¬ (n1 : Int) = 0 := by omega
          have hc2 : ((n1 : Int) == 0) = false := beq_eq_false_iff_ne.2 hc1
          have hc3 : (0 : Int) < (n1 : Int) := by omega
          have hd1 : ¬ (n2 : Int) = 0 := by omega
          have hd2 : ((n2 : Int) == 0) = false := beq_eq_false_iff_ne.2 hd1
          have hd3 : (0 : Int) < (n2 : Int) := by omega
          have hb0 : ¬ (nB : Int) = 0 := by
            have h1 := HBB.out
            have h2 := List.length_pos_iff.2 hB
            omega
          have hb1 : ((nB : Int) == 0) = false := beq_eq_false_iff_ne.2 hb0
          clear hB hn1 hn2
          go_wp2
          go_meet
          exact ⟨rfl, rfl⟩
        · have hlk := H10.out.2.look 5 (by decide)
          rw [show turn5 5 = 5 by decide] at hlk
          subst hr hr2
          have hc1 : ¬ (n1 : Int) = 0 := by omega
          have hc2 : ((n1 : Int) == 0) = false := beq_eq_false_iff_ne.2 hc1
          have hc3 : (0 : Int) < (n1 : Int) := by omega
          have hd1 : ¬ (n2 : Int) = 0 := by omega
          have hd2 : ((n2 : Int) == 0) = false := beq_eq_false_iff_ne.2 hd1
          have hd3 : (0 : Int) < (n2 : Int) := by omega
          have hb0 : nB = 0 := by
            have h1 := HBB.out
            rw [hB] at h1
            simp at h1
            omega
          subst hb0
          clear hB hn1 hn2
          go_wp2
          go_meet
          exact ⟨rfl, rfl⟩
      case rest =>
        obtain ⟨rfl, hcut⟩ := hcut
        have hwc := hcut.out
        subst hwc
        clear hcut
        generalize wc = w11 at *
        go_upto_region 20 with fail
        go_cut [199] from 180 to 198 (fun v wq => v = .bool false ∧ Hid (Below w11.heap.size w11 wq))
        case first =>
          have hB1 : Below w11.heap.size w11 (w11.alloc (.cells #[.int .u64 y] 31)) := (Below.refl _ w11).alloc (Nat.le_refl _) _
          have hB2 : Below w11.heap.size w11 (w11.alloc (.cells #[.int .u64 x] 31)) := (Below.refl _ w11).alloc (Nat.le_refl _) _
          rcases HF.out.ways with ⟨hr, hr2, hn1, hn2, hB⟩ | ⟨hr, hr2, hn1, hn2, hB⟩ | ⟨hr, hr2, hn1, hn2, hB⟩ | ⟨hr, hr2, hn1, hn2, hB⟩ | ⟨hr, hr2, hn1, hn2, hB⟩
          · subst hr
            clear hB hB1 hB2 hn1 hn2 hr2
            go_wp2
            go_meet
            exact ⟨rfl, Below.refl _ _⟩
          · have hI := HBI10.out.kept hB1
            rw [hB] at hI
            have hsm := same12_any _ ba (some ⟨w11.heap.size, 0, none⟩) nB 1 bc 1 [y] [y] hI (lit_id1P w11 y) (by omega) (by omega)
            rw [beq_self_eq_true] at hsm
            subst hr
            have HBy : Hid (Below w11.heap.size w11 (w11.alloc (.cells #[.int .u64 y] 31))) := hB1
            clear hB hB1 hB2 hn1 hn2 hr2 hI
            go_wp2_with (go_at_call 15; refine hsm.mono ?_; clear hsm; rintro e wx ⟨rfl, hBx⟩; have HBx : Hid (Below w11.heap.size w11 wx) := HBy.out.trans (hBx.mono HBy.out.size); clear hBx)
            go_meet
            exact ⟨rfl, HBx.out⟩
          · have hI := HBI10.out.kept hB2
            rw [hB] at hI
            have hsm := same12_any _ ba (some ⟨w11.heap.size, 0, none⟩) nB 1 bc 1 [x] [x] hI (lit_id1P w11 x) (by omega) (by omega)
            rw [beq_self_eq_true] at hsm
            subst hr
            have HBy : Hid (Below w11.heap.size w11 (w11.alloc (.cells #[.int .u64 x] 31))) := hB2
            clear hB hB1 hB2 hn1 hn2 hr2 hI
            go_wp2_with (go_at_call 15; refine hsm.mono ?_; clear hsm; rintro e wx ⟨rfl, hBx⟩; have HBx : Hid (Below w11.heap.size w11 wx) := HBy.out.trans (hBx.mono HBy.out.size); clear hBx)
            go_meet
            exact ⟨rfl, HBx.out⟩
          · subst hr
            clear hB hB1 hB2 hn1 hn2 hr2
            go_wp2
            go_meet
            exact ⟨rfl, Below.refl _ _⟩
          · subst hr
            clear hB hB1 hB2 hn1 hn2 hr2
            go_wp2
            go_meet
            exact ⟨rfl, Below.refl _ _⟩
        case rest =>
          obtain ⟨rfl, hcut⟩ := hcut
          generalize wc = wq at *
          have H11 : Hid (Below w2.heap.size w2 wq) := H10.out.1.trans (hcut.out.mono H10.out.1.size)
          have HBI11 : Hid (Ids wq ba nB B) := HBI10.out.kept hcut.out
          clear hcut H10 HBI10
          have H12 : Hid (Below wq.heap.size wq (wq.alloc (.cells #[.int .u64 x, .int .u64 y] 31))) := (Below.refl _ wq).alloc (Nat.le_refl _) _
          have H12w : Hid (Below w2.heap.size w2 (wq.alloc (.cells #[.int .u64 x, .int .u64 y] 31))) := H11.out.trans (H12.out.mono H11.out.size)
          have hor := HOr.out _ _ H12w.out (lit_ids wq x y (0, 0))
          have c0 := (HEv.out wq H11.out).1.1
          go_wp2_with fail
          refine hor.mono ?_
          clear hor c0
          rintro e w13 ⟨hB13, oa, oc, rfl, hrow13⟩
          have H13 : Hid (Below w2.heap.size w2 w13) := H12w.out.trans (hB13.mono H12w.out.size)
          have HBI13 : Hid (Ids w13 ba nB B) := (HBI11.out.kept H12.out).kept hB13
          obtain ⟨_, _, ee, hI13⟩ := own_idsG hrow13
          cases ee
          have HOI : Hid (Ids w13 oa nO O) := hI13
          clear hB13 hrow13 hI13 H12 H12w
          go_wp2
          go_loopw [213] (fun v wr => ∃ i : Nat, i ≤ nO ∧ v = .int .i64 (i : Int) ∧ Hid (Below w13.heap.size w13 wr)) (fun v _ => nO - (intOf v).toNat)
          case atStart => exact ⟨0, Nat.zero_le _, rfl, Below.refl _ _⟩
          case round =>
            obtain ⟨i, hi, rfl, HB⟩ := hrel
            by_cases hlt : i < nO
            · obtain ⟨z, hz⟩ : ∃ z, O[i]? = some z := ⟨_, List.getElem?_eq_getElem (by have := HOO.out; omega)⟩
              obtain ⟨ob, oo, rfl, hoc1⟩ := (HOI.out.kept HB.out).2 (by omega)
              have q0 := hoc1 i z hz
              have HZ : Hid (z ∈ O) := List.mem_of_getElem? hz
              have HW : Hid (Below w2.heap.size w2 wr) := H13.out.trans (HB.out.mono H13.out.size)
              obtain ⟨⟨c0, _⟩, _, hIS⟩ := HEv.out wr HW.out
              have han := anc_callB wr s d st.os _ false F hIS HI2.out.2.2 HF.out HZ.out HF.out.ha
              have i2 : (i : Int) < (nO : Int) := by omega
              have i3 : ¬ nO ≤ i := by omega
              obtain ⟨bp, hbp⟩ : ∃ b, b = ancB st.os z x := ⟨_, rfl⟩
              rw [← hbp] at han
              have HP : Hid (bp = ancB st.os z x) := hbp
              clear hoc1 hz hIS hbp
              go_wp2_with fail
              refine han.mono ?_
              clear han c0 q0
              rintro e w14 ⟨rfl, hB14⟩
              have HB14 : Hid (Below w13.heap.size w13 w14) := HB.out.trans (hB14.mono HB.out.size)
              have HW14 : Hid (Below w2.heap.size w2 w14) := H13.out.trans (HB14.out.mono H13.out.size)
              clear hB14
              obtain ⟨⟨c0, _⟩, _, hIS⟩ := HEv.out w14 HW14.out
              have han := anc_callB w14 s d st.os _ false F hIS HI2.out.2.2 HF.out HZ.out HF.out.hb
              obtain ⟨bq, hbq⟩ : ∃ b, b = ancB st.os z y := ⟨_, rfl⟩
              rw [← hbq] at han
              have HQ : Hid (bq = ancB st.os z y) := hbq
              clear hIS hbq
              go_wp2_with fail
              refine han.mono ?_
              clear han c0
              rintro e w15 ⟨rfl, hB15⟩
              have HB15 : Hid (Below w13.heap.size w13 w15) := HB14.out.trans (hB15.mono HB14.out.size)
              clear hB15 HW HW14 HB14 HB
              go_wp2
              go_loopw [31, 239] (fun f v wq => ∃ (k : Nat) (b : Bool), k ≤ nB ∧ f = .bool b ∧ v = .int .i64 (k : Int) ∧ Hid (b = (B.take k).any (ancB st.os z) ∧ Below w13.heap.size w13 wq)) (fun _ v _ => nB - (intOf v).toNat)
              case atStart => exact ⟨0, false, Nat.zero_le _, rfl, rfl, by simp, HB15.out⟩
              case round =>
                obtain ⟨k, b1, hk, rfl, rfl, HB2⟩ := hrel
                by_cases hkt : k < nB
                · obtain ⟨u, hu⟩ : ∃ u, B[k]? = some u := ⟨_, List.getElem?_eq_getElem (by have := HBB.out; omega)⟩
                  obtain ⟨bb, bo, rfl, hbc1⟩ := (HBI13.out.kept HB2.out.2).2 (by omega)
                  have q1 := hbc1 k u hu
                  obtain ⟨⟨c0, _⟩, _, hIS⟩ := HEv.out _ (H13.out.trans (HB2.out.2.mono H13.out.size))
                  have han := anc_callB _ s d st.os _ false F hIS HI2.out.2.2 HF.out HZ.out (HF.out.sub u (List.mem_of_getElem? hu))
                  obtain ⟨b2, hb2⟩ : ∃ b, b = ancB st.os z u := ⟨_, rfl⟩
                  rw [← hb2] at han
                  have HN : Hid ((b1 || b2) = (B.take (k + 1)).any (ancB st.os z)) := by show _ = _; rw [led_step hu, HB2.out.1, hb2]
                  have j2 : (k : Int) < (nB : Int) := by omega
                  have j3 : ¬ nB ≤ k := by omega
                  clear hbc1 hu hIS hb2
                  cases b1 <;> cases b2
                  all_goals
                    go_wp2_with (go_at_call 24; refine han.mono ?_; clear han; rintro e w16 ⟨rfl, hB16⟩; have H16 : Hid (Below w13.heap.size w13 w16) := HB2.out.2.trans (hB16.mono HB2.out.2.size); clear hB16)
                    go_roundw
                    case rel => exact ⟨k + 1, _, by omega, rfl, by simp, HN.out, H16.out⟩
                    case measure => simp [intOf]; omega
                · obtain rfl : k = nB := by omega
                  have j2 : ¬ (k : Int) < (k : Int) := by omega
                  have hb1 : b1 = (bp && bq) := by
                    rw [HB2.out.1, List.take_of_length_le (by have := HBB.out; omega), HF.out.led, HP.out, HQ.out]
                  clear HP HQ
                  cases bp <;> cases bq
                  all_goals
                    simp only [Bool.and_true, Bool.and_false] at hb1
                    subst hb1
                    go_wp2
                    go_roundw
                    case rel => exact ⟨i + 1, by omega, by simp, HB2.out.2⟩
                    case measure => simp [intOf]; omega
            · obtain rfl : i = nO := by omega
              have i2 : ¬ (i : Int) < (i : Int) := by omega
              have hwl := wakes12_any wr
              have H14 : Hid (Below w2.heap.size w2 wr) := H13.out.trans (HB.out.mono H13.out.size)
              clear HB
              go_wp2_with fail
              refine hwl.mono ?_
              clear hwl
              rintro e w17 ⟨rfl, hB17⟩
              have H17 : Hid (Below w.heap.size w w17) := H2.out.trans ((H14.out.trans (hB17.mono H14.out.size)).mono H2.out.size)
              clear hB17
              go_wp2
              go_ret
              exact ⟨rfl, H17.out⟩
end Go.Proofs.YtncagdfbgpdhfaaGreat
