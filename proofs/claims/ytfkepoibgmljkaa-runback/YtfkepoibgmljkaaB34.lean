import Derived.Test.YtfkepoibgmljkaaB33
import Derived.Test.YtfkepoibgmljkaaB30
import Derived.Test.YtfkepoibgmljkaaB24
/- The walk of RunBack. -/
namespace Go.Proofs.Ytfkepoibgmljkaa
open Go.RowKit Go.Shelf Go.Maps Go.Lib

attribute [local go_sem] Oper.semAt_some

/-- what stands while pairs are gathered in box F -/
def BackI (F : Nat) (w3 : World) (pre : List Pr) (W : World) : Prop :=
  Turn (fun k => k = F) w3 W ∧ ∃ v, Boxed W F 25 v ∧ W.ownsRow w3.heap.size 32 2 v pre.length (prCells pre)
theorem backI_own (F : Nat) (w3 : World) (hF : F < w3.heap.size) : OwnFrom w3.heap.size (BackI F w3) := by
  rintro pre X Y row ⟨hT, v, h3, h4⟩ hgr hr
  refine ⟨vturn_own (β := List Pr) pre X Y row hT hgr hr, v, h3.kept hgr (fun e => by have := (hr F e.symm).1; omega), row_movedV h4 (fun q hq => ?_)⟩
  obtain ⟨_, hlt, cur, hc⟩ := row_blockV h4 q hq
  refine hgr.block q hlt (fun e => ?_)
  obtain ⟨_, o, ho, hoc⟩ := hr q e.symm
  rw [hc] at ho
  cases ho
  cases hoc

set_option maxRecDepth 100000 in
set_option maxHeartbeats 8000000 in
theorem runBack_walk (w : World) (x y z : Sl) (ask : Nat) (hx : x.In w) (hy : y.In w) (hz : z.In w) :
    Calls Try.prog 4 #[.agg #[x.v, y.v, z.v], .int .u64 (ask : Int)] w fun e w' => e = .returned (.bool true) ∧ Below w.heap.size w w' := by
  have hmx : Try.prog.follows .mixedOrders = true := by kernel_rfl
  have HW : Hid (∀ W, Calls Try.prog 5 #[] W fun e w' => e = .returned (.bool true) ∧ Below W.heap.size W w') := vwakes_any
  obtain ⟨xa, xn, xc, xl⟩ := x
  obtain ⟨xk, hxk⟩ : ∃ k, k = min xn 60 := ⟨_, rfl⟩
  have kx1 : xk ≤ 60 := by omega
  have HAx : Hid (Prs w xa xk (xl.take xk) ∧ PrOk (xl.take xk) ∧ ((xa : Option Addr) = none → xk = 0 ∧ xc = 0) ∧ (xl.take xk).length ≤ 60) := ⟨prs_take hx.prs xk (by (try simp only at hxk ⊢); omega), PrOk.take hx.ok xk, fun e => by (have := hx.nil e; (try simp only at this hxk); omega), by rw [List.length_take]; omega⟩
  have HSmx : Hid (∀ W, Calls Try.prog 7 #[.slice xa xn xc, .int .i64 60] W fun e w' => e = .returned (.slice xa xk xc) ∧ w' = W) := fun W => by rw [hxk]; exact some_any W xa xn xc 60 hx.cap
  clear hx hxk
  generalize xl.take xk = xlt at *
  obtain ⟨ya, yn, yc, yl⟩ := y
  obtain ⟨yk, hyk⟩ : ∃ k, k = min yn 60 := ⟨_, rfl⟩
  have ky1 : yk ≤ 60 := by omega
  have HAy : Hid (Prs w ya yk (yl.take yk) ∧ PrOk (yl.take yk) ∧ ((ya : Option Addr) = none → yk = 0 ∧ yc = 0) ∧ (yl.take yk).length ≤ 60) := ⟨prs_take hy.prs yk (by (try simp only at hyk ⊢); omega), PrOk.take hy.ok yk, fun e => by (have := hy.nil e; (try simp only at this hyk); omega), by rw [List.length_take]; omega⟩
  have HSmy : Hid (∀ W, Calls Try.prog 7 #[.slice ya yn yc, .int .i64 60] W fun e w' => e = .returned (.slice ya yk yc) ∧ w' = W) := fun W => by rw [hyk]; exact some_any W ya yn yc 60 hy.cap
  clear hy hyk
  generalize yl.take yk = ylt at *
  obtain ⟨za, zn, zc, zl⟩ := z
  obtain ⟨zk, hzk⟩ : ∃ k, k = min zn 60 := ⟨_, rfl⟩
  have kz1 : zk ≤ 60 := by omega
  have HAz : Hid (Prs w za zk (zl.take zk) ∧ PrOk (zl.take zk) ∧ ((za : Option Addr) = none → zk = 0 ∧ zc = 0) ∧ (zl.take zk).length ≤ 60) := ⟨prs_take hz.prs zk (by (try simp only at hzk ⊢); omega), PrOk.take hz.ok zk, fun e => by (have := hz.nil e; (try simp only at this hzk); omega), by rw [List.length_take]; omega⟩
  have HSmz : Hid (∀ W, Calls Try.prog 7 #[.slice za zn zc, .int .i64 60] W fun e w' => e = .returned (.slice za zk zc) ∧ w' = W) := fun W => by rw [hzk]; exact some_any W za zn zc 60 hz.cap
  clear hz hzk
  generalize zl.take zk = zlt at *
  change Calls Try.prog 4 #[.agg #[.slice xa xn xc, .slice ya yn yc, .slice za zn zc], .int .u64 (ask : Int)] w _
  have hB0 : Below w.heap.size w (w.alloc (.cells #[.slice xa xn xc, .slice ya yn yc, .slice za zn zc] 41)) := (Below.refl _ w).alloc (Nat.le_refl _) _
  have hb0 := World.alloc_heap_new w (.cells #[.slice xa xn xc, .slice ya yn yc, .slice za zn zc] 41)
  have H0 : Hid (Below w.heap.size w (w.alloc (.cells #[.slice xa xn xc, .slice ya yn yc, .slice za zn zc] 41)) ∧ (w.alloc (.cells #[.slice xa xn xc, .slice ya yn yc, .slice za zn zc] 41)).heap[w.heap.size]? = some (.cells #[.slice xa xn xc, .slice ya yn yc, .slice za zn zc] 41 (0, 0))) := ⟨hB0, hb0⟩
  clear hB0 hb0
  refine (callsIn_wide (n := 5)).1 ?_
  refine callsIn_of_wp_marks Try.func4 rfl trivial ?_ rfl
  simp only [Try.ntmps4, List.size_toArray, List.length_cons, List.length_nil, Nat.reduceAdd, Nat.reduceSub, Array.replicate_succ, Array.replicate_zero, List.push_toArray, List.append_toArray, List.nil_append, List.cons_append]
  refine wpIn_wide.2 ?_
  go_upto_region 3 with (go_at_call 5; refine (HW.out _).mono ?_; rintro e w1 ⟨rfl, hB1⟩; have H1 : Hid (Below w.heap.size w w1 ∧ w1.heap[w.heap.size]? = some (.cells #[.slice xa xn xc, .slice ya yn yc, .slice za zn zc] 41 (0, 0))) := ⟨H0.out.1.trans (hB1.mono H0.out.1.size), (hB1.block _ (by simp)).trans H0.out.2⟩; clear hB1)
  clear H0
  obtain ⟨t0, t1, t2⟩ := cells_of_three H1.out.2
  go_quiet (fail)
  clear t0 t1 t2
  have HQ : Hid (Below w.heap.size w (w1.drewN nq)) := vbelow_drewN H1.out.1 nq
  clear H1
  generalize w1.drewN nq = wq at *
  go_upto_region 7 with first
    | (go_at_call 12; refine (make_any p2 pa2 zk pc2 zlt (own_prs H32.out.1 HAz.out.1.1) HAz.out.2.1 (fun e => (by obtain ⟨ad, c0, e0, _, e2⟩ := row_shapeV H32.out.1; cases e0; exact e2 e)) (by omega)).mono ?_; rintro e m2 ⟨v2, er2, rfl, hE2, hm2⟩; have HM2 : Hid ((er2 ≠ 0 ∨ ∃ ad N cp d, er2 = 0 ∧ v2 = .slice ad N cp ∧ RunS m2 ad N cp d ∧ d.length ≤ 60) ∧ Below m1.heap.size m1 m2 ∧ Below w.heap.size w m2) := ⟨run_made hE2 HAz.out.2.2.2, H32.out.2.trans (hm2.mono H32.out.2.size), HM1.out.2.2.trans ((H32.out.2.trans (hm2.mono H32.out.2.size)).mono HM1.out.2.2.size)⟩; clear hE2 hm2 H32)
    | (at_builtin; refine wpList_appV rfl _ _ rfl m1.heap.size 0 zk zc (.slice (some ⟨m1.heap.size, 0, none⟩) 0 0) [] zlt za rfl rfl hr2 HP2.out.1 HAz.out.2.2.1 (by omega) HP2.out.2.size ?_; intro pa2 pc2 p2 hnc2 hown2 hB2; simp only [Nat.zero_add, List.nil_append] at hnc2 hown2; have H32 : Hid (p2.ownsRow m1.heap.size 32 2 (.slice pa2 zk pc2) zk (prCells zlt) ∧ Below m1.heap.size m1 p2) := ⟨hown2, HP2.out.2.trans hB2⟩; clear hown2 hB2 hr2 HP2)
    | (go_at_call 7; refine (HSmz.out (m1.alloc (.cells #[] 32))).mono ?_; rintro e s2 ⟨rfl, hs2⟩; subst hs2; have HP2 : Hid (Prs (m1.alloc (.cells #[] 32)) za zk zlt ∧ Below m1.heap.size m1 (m1.alloc (.cells #[] 32))) := ⟨HAz.out.1.kept (HM1.out.2.2.alloc HM1.out.2.2.size _), (Below.refl _ m1).alloc (Nat.le_refl _) _⟩; have hr2 : (m1.alloc (.cells #[] 32)).ownsRow m1.heap.size 32 2 (.slice (some ⟨m1.heap.size, 0, none⟩) 0 0) 0 (prCells []) := row_emptyV m1 m1.heap.size (Nat.le_refl _))
    | (go_at_call 12; refine (make_any p1 pa1 yk pc1 ylt (own_prs H31.out.1 HAy.out.1.1) HAy.out.2.1 (fun e => (by obtain ⟨ad, c0, e0, _, e2⟩ := row_shapeV H31.out.1; cases e0; exact e2 e)) (by omega)).mono ?_; rintro e m1 ⟨v1, er1, rfl, hE1, hm1⟩; have HM1 : Hid ((er1 ≠ 0 ∨ ∃ ad N cp d, er1 = 0 ∧ v1 = .slice ad N cp ∧ RunS m1 ad N cp d ∧ d.length ≤ 60) ∧ Below m0.heap.size m0 m1 ∧ Below w.heap.size w m1) := ⟨run_made hE1 HAy.out.2.2.2, H31.out.2.trans (hm1.mono H31.out.2.size), HM0.out.2.2.trans ((H31.out.2.trans (hm1.mono H31.out.2.size)).mono HM0.out.2.2.size)⟩; clear hE1 hm1 H31)
    | (at_builtin; refine wpList_appV rfl _ _ rfl m0.heap.size 0 yk yc (.slice (some ⟨m0.heap.size, 0, none⟩) 0 0) [] ylt ya rfl rfl hr1 HP1.out.1 HAy.out.2.2.1 (by omega) HP1.out.2.size ?_; intro pa1 pc1 p1 hnc1 hown1 hB1; simp only [Nat.zero_add, List.nil_append] at hnc1 hown1; have H31 : Hid (p1.ownsRow m0.heap.size 32 2 (.slice pa1 yk pc1) yk (prCells ylt) ∧ Below m0.heap.size m0 p1) := ⟨hown1, HP1.out.2.trans hB1⟩; clear hown1 hB1 hr1 HP1)
    | (go_at_call 7; refine (HSmy.out (m0.alloc (.cells #[] 32))).mono ?_; rintro e s1 ⟨rfl, hs1⟩; subst hs1; have HP1 : Hid (Prs (m0.alloc (.cells #[] 32)) ya yk ylt ∧ Below m0.heap.size m0 (m0.alloc (.cells #[] 32))) := ⟨HAy.out.1.kept (HM0.out.2.2.alloc HM0.out.2.2.size _), (Below.refl _ m0).alloc (Nat.le_refl _) _⟩; have hr1 : (m0.alloc (.cells #[] 32)).ownsRow m0.heap.size 32 2 (.slice (some ⟨m0.heap.size, 0, none⟩) 0 0) 0 (prCells []) := row_emptyV m0 m0.heap.size (Nat.le_refl _))
    | (go_at_call 12; refine (make_any p0 pa0 xk pc0 xlt (own_prs H30.out.1 HAx.out.1.1) HAx.out.2.1 (fun e => (by obtain ⟨ad, c0, e0, _, e2⟩ := row_shapeV H30.out.1; cases e0; exact e2 e)) (by omega)).mono ?_; rintro e m0 ⟨v0, er0, rfl, hE0, hm0⟩; have HM0 : Hid ((er0 ≠ 0 ∨ ∃ ad N cp d, er0 = 0 ∧ v0 = .slice ad N cp ∧ RunS m0 ad N cp d ∧ d.length ≤ 60) ∧ Below wq.heap.size wq m0 ∧ Below w.heap.size w m0) := ⟨run_made hE0 HAx.out.2.2.2, H30.out.2.trans (hm0.mono H30.out.2.size), HQ.out.trans ((H30.out.2.trans (hm0.mono H30.out.2.size)).mono HQ.out.size)⟩; clear hE0 hm0 H30)
    | (at_builtin; refine wpList_appV rfl _ _ rfl wq.heap.size 0 xk xc (.slice (some ⟨wq.heap.size, 0, none⟩) 0 0) [] xlt xa rfl rfl hr0 HP0.out.1 HAx.out.2.2.1 (by omega) HP0.out.2.size ?_; intro pa0 pc0 p0 hnc0 hown0 hB0; simp only [Nat.zero_add, List.nil_append] at hnc0 hown0; have H30 : Hid (p0.ownsRow wq.heap.size 32 2 (.slice pa0 xk pc0) xk (prCells xlt) ∧ Below wq.heap.size wq p0) := ⟨hown0, HP0.out.2.trans hB0⟩; clear hown0 hB0 hr0 HP0)
    | (go_at_call 7; refine (HSmx.out (wq.alloc (.cells #[] 32))).mono ?_; rintro e s0 ⟨rfl, hs0⟩; subst hs0; have HP0 : Hid (Prs (wq.alloc (.cells #[] 32)) xa xk xlt ∧ Below wq.heap.size wq (wq.alloc (.cells #[] 32))) := ⟨HAx.out.1.kept (HQ.out.alloc HQ.out.size _), (Below.refl _ wq).alloc (Nat.le_refl _) _⟩; have hr0 : (wq.alloc (.cells #[] 32)).ownsRow wq.heap.size 32 2 (.slice (some ⟨wq.heap.size, 0, none⟩) 0 0) 0 (prCells []) := row_emptyV wq wq.heap.size (Nat.le_refl _))
  have HB2 : Hid (Below m0.heap.size m0 m2 ∧ Below m1.heap.size m1 m2 ∧ Below w.heap.size w m2) := ⟨HM1.out.2.1.trans (HM2.out.2.1.mono HM1.out.2.1.size), HM2.out.2.1, HM2.out.2.2⟩
  clear HQ
  rcases HM0.out.1 with h0 | ⟨a0, N0, c0, d0, rfl, rfl, R0, hd0⟩
  · have i0 : (er0 != 0) = true := by simpa using h0
    go_wp2_with (go_at_call 5; refine (HW.out _).mono ?_; rintro e w5 ⟨rfl, hw5⟩)
    refine ⟨.bool true, by simp [results, Try.results4, go_sem], rfl, HB2.out.2.2.trans (hw5.mono HB2.out.2.2.size)⟩
  rcases HM1.out.1 with h1 | ⟨a1, N1, c1, d1, rfl, rfl, R1, hd1⟩
  · have i1 : (er1 != 0) = true := by simpa using h1
    go_wp2_with (go_at_call 5; refine (HW.out _).mono ?_; rintro e w5 ⟨rfl, hw5⟩)
    refine ⟨.bool true, by simp [results, Try.results4, go_sem], rfl, HB2.out.2.2.trans (hw5.mono HB2.out.2.2.size)⟩
  rcases HM2.out.1 with h2 | ⟨a2, N2, c2, d2, rfl, rfl, R2, hd2⟩
  · have i2 : (er2 != 0) = true := by simpa using h2
    go_wp2_with (go_at_call 5; refine (HW.out _).mono ?_; rintro e w5 ⟨rfl, hw5⟩)
    refine ⟨.bool true, by simp [results, Try.results4, go_sem], rfl, HB2.out.2.2.trans (hw5.mono HB2.out.2.2.size)⟩
  have HR0 : Hid (RunS m2 a0 N0 c0 d0 ∧ d0.length ≤ 60) := ⟨R0.kept HB2.out.1, hd0⟩
  have HR1 : Hid (RunS m2 a1 N1 c1 d1 ∧ d1.length ≤ 60) := ⟨R1.kept HB2.out.2.1, hd1⟩
  have HR2 : Hid (RunS m2 a2 N2 c2 d2 ∧ d2.length ≤ 60) := ⟨R2, hd2⟩
  have HBw : Hid (Below w.heap.size w m2) := HB2.out.2.2
  have nb0 := R0.short
  have nb1 := R1.short
  have nb2 := R2.short
  clear R0 R1 R2 hd0 hd1 hd2 HB2 HM0 HM1 HM2 HAx HAy HAz HSmx HSmy HSmz
  have hBF : Below m2.heap.size m2 (m2.alloc (.cells #[.slice none 0 0] 25)) := (Below.refl _ m2).alloc (Nat.le_refl _) _
  have he := veach_any (m2.alloc (.cells #[.slice none 0 0] 25)) a0 N0 c0 (runB d0) (HR0.out.1.kept hBF).bytes HR0.out.1.nil HR0.out.1.cap (by omega)
  rw [(by unfold eachL; rw [pairs_runB HR0.out.1.good]; rfl : eachL (runB d0) = d0)] at he
  have HF : Hid (Boxed (m2.alloc (.cells #[.slice none 0 0] 25)) m2.heap.size 25 (.slice none 0 0) ∧ Below m2.heap.size m2 (m2.alloc (.cells #[.slice none 0 0] 25)) ∧ (m2.alloc (.cells #[.slice none 0 0] 25)).heap.size = m2.heap.size + 1) := ⟨Boxed.new m2 _ _, hBF, by simp⟩
  clear hBF
  go_wp2_with (go_at_call 13; refine he.mono ?_; clear he; rintro e w3 ⟨Bx, G, ev, rfl, hE, hBx, hG, hB3⟩)
  have H3 : Hid (EachAt w3 Bx G ev d0 ∧ m2.heap.size < Bx ∧ m2.heap.size < G ∧ Below m2.heap.size m2 w3 ∧ Boxed w3 m2.heap.size 25 (.slice none 0 0) ∧ m2.heap.size < w3.heap.size) := by
    have hs := HF.out.2.2
    have h3 := hB3.size
    exact ⟨hE, by omega, by omega, HF.out.2.1.trans (hB3.mono (by omega)), (hB3.block _ (by omega)).trans HF.out.1, by omega⟩
  clear hE hBx hG hB3 HF
  obtain ⟨i0, hii, hzz0, hzz1, hzz2⟩ := info_parts infoPr
  refine (wpIn_wide (n := 5)).1 ?_
  refine range_boxed (w := w3) rfl (by omega) (gf := 30) (lb := #[.pointer (some ⟨Bx, 0, none⟩)]) rfl trivial (enters_of Try.func30 (by kernel_rfl) rfl)
    (veach_tells w3 Bx G ev d0 H3.out.1 4 (by omega)) (fun _ => rfl) (fun k hk => hk.elim (fun e => by rw [e]; exact H3.out.1.box.lt) (fun e => by rw [e]; exact H3.out.1.glt))
    (BackI m2.heap.size w3) (fun _ _ _ => False)
    (backI_own _ _ H3.out.2.2.2.2.2) ?ix (fun _ _ _ _ _ _ h _ _ => h) ⟨Turn.refl _ _, _, H3.out.2.2.2.2.1, World.ownsRow_nil _ _ _ _⟩
    (fun x => .cells #[.int .u64 (x.1 : Int), .int .u64 (x.2 : Int)] 32) ?act ?assign ?body ?done ?stop
  case assign =>
    intro l x b W K hb hK
    unfold prE
    gi_wp2
    exact hK
  case ix => exact fun c pre X Y row h _ _ => h.elim
  case stop => exact fun D c pre W hD h hK => h.elim
  case body =>
    rintro l pre ⟨x, y⟩ bx W hl3 hb3 (hbx : BoxV W bx x y) ⟨hTW, v, bv, hrow⟩ hx
    have hs3 := H3.out.2.2.2.2.2
    have hsW := hTW.size
    obtain ⟨ga, gc, rfl, _⟩ := row_shapeV hrow
    have hlen : pre.length + 1 ≤ 65536 := by
      have h1 := (List.getElem?_eq_some_iff.1 hx).1
      have h2 := H3.out.1.len
      omega
    have cp := hbx.cell
    obtain ⟨cp0, cp1⟩ := cp
    have cf := bv.cell
    have ff := bv.frozen
    have H : Hid (Turn (fun k => k = m2.heap.size) w3 W ∧ Boxed W m2.heap.size 25 (.slice ga pre.length gc) ∧ W.ownsRow w3.heap.size 32 2 (.slice ga pre.length gc) pre.length (prCells pre) ∧ pre.length + 1 ≤ 65536) := ⟨hTW, bv, hrow, hlen⟩
    have HBX : Hid (Boxed W m2.heap.size 25 (.slice ga pre.length gc)) := bv
    have hrow' := row_keptV hrow ((Below.refl _ W).alloc (Nat.le_refl _) (.cells #[.int .u64 (x : Int), .int .u64 (y : Int)] 32))
    clear hTW hrow bv hbx hx
    generalize hPL : pre.length = PL at *
    gi_wp2_with (gi_at_builtin; refine wpListIn_append_own _ rfl _ _ 25 rfl w3.heap.size 32 i0 _ 2 16 Try.underlying25 hii hzz0 hzz1 hzz2 rfl (by decide) _ PL _ rfl hrow' ⟨W.heap.size, 0, none⟩ 1 1 [.int .u64 (x : Int), .int .u64 (y : Int)] rfl rfl (cells_pr_new W (x, y)) (by simp [Value.oneCell']) (by unfold maxLen; omega) (by omega) (by simp; omega) ?_; intro v' w5 hown5 hgr5 _; have hvo : (Value.slice ga PL gc).ownBlock ≠ some m2.heap.size := (fun e => by have := (row_blockV hrow' _ e).1; omega); have b5 : Boxed w5 m2.heap.size 25 (.slice ga PL gc) := (HBX.out.alloc (.cells #[.int .u64 (x : Int), .int .u64 (y : Int)] 32)).kept hgr5 (fun e => hvo e.symm); have c5 := b5.cell; have f5 := b5.frozen; obtain ⟨ga5, gc5, hv5, _⟩ := row_shapeV hown5; subst hv5; have H5 : Hid (Boxed w5 m2.heap.size 25 (.slice ga PL gc) ∧ w5.ownsRow w3.heap.size 32 2 (.slice ga5 (PL + 1) gc5) (PL + 1) (prCells pre ++ [.int .u64 (x : Int), .int .u64 (y : Int)]) ∧ (W.alloc (.cells #[.int .u64 (x : Int), .int .u64 (y : Int)] 32)).grownBy w5 (Value.slice ga PL gc).ownBlock) := ⟨b5, hown5, hgr5⟩; clear b5 hown5 hgr5)
    obtain ⟨b5, hown5, hgr5⟩ := H5.out
    obtain ⟨hTW, bv, hrow, _⟩ := H.out
    have hT5 : Turn (fun k => k = m2.heap.size ∨ (Value.slice ga PL gc).ownBlock = some k) W (w5.setCell ⟨m2.heap.size, 0, none⟩ (.slice ga5 (PL + 1) gc5)) :=
      ((Turn.of_below _ ((Below.refl _ W).alloc (Nat.le_refl _) (.cells #[.int .u64 (x : Int), .int .u64 (y : Int)] 32))).trans (Turn.of_grownBy (Fp := fun k => (Value.slice ga PL gc).ownBlock = some k) hgr5 (fun k e => .inl e)) (fun _ _ e => .inr e)).trans (turn_setCell w5 m2.heap.size 0 _) (fun _ _ e => .inl e)
    have hvB : ∀ k, (Value.slice ga PL gc).ownBlock = some k → w3.heap.size ≤ k := fun k e => (row_blockV hrow k e).1
    have hbl := H3.out.1.box.lt
    have hgl := H3.out.1.glt
    have hb0 := H3.out.2.1
    have hg0 := H3.out.2.2.1
    refine ⟨ikeepsFrom_turn hT5 (fun q o hq hB ho => ?_), ⟨hT5.size, fun q hq => hT5.block q (by omega) (by rintro (e | e); omega; (have := hvB q e; omega))⟩, hTW.trans hT5 (fun q hq e => by rcases e with e | e; exact e; (have := hvB q e; omega)), _, b5.set _, ?_⟩
    · rcases hq with e | e
      · omega
      · obtain ⟨_, _, cur, hc⟩ := row_blockV hrow q e
        rw [hc] at ho; cases ho; rfl
    · rw [List.length_append, hPL, prCells_append]
      refine row_movedV hown5 (fun q hq => ?_)
      have := (row_blockV hown5 q hq).1
      exact Below.heap_setCell _ _ _ _ (by show q ≠ m2.heap.size; omega)
  case done =>
    rintro D xs W hD rfl ⟨hTW, v, bv, hrow⟩ hK
    have hs3 := H3.out.2.2.2.2.2
    have cf := bv.cell
    obtain ⟨ga, gc, rfl, hgc, hgn⟩ := row_shapeV hrow
    have hlen := H3.out.1.len
    have hBW : Below m2.heap.size m2 W := H3.out.2.2.2.1.trans (hTW.below (by omega) (fun k e => by omega))
    have HD : Hid (w3.heap.size ≤ D ∧ W.heap[D]? = some (.deferred (some [])) ∧ Below m2.heap.size m2 W ∧ PrV W ga xs.length gc xs ∧ D < W.heap.size) := ⟨hD, hK, hBW, ⟨own_prs hrow rfl, hgn, hgc⟩, (Array.getElem?_eq_some_iff.1 hK).1⟩
    clear hTW hK bv hrow hBW hgc hgn
    have H30 : Hid (RunS W a0 N0 c0 xs ∧ RunS W a1 N1 c1 d1 ∧ RunS W a2 N2 c2 d2 ∧ Below m2.heap.size m2 W) := ⟨HR0.out.1.kept HD.out.2.2.1, HR1.out.1.kept HD.out.2.2.1, HR2.out.1.kept HD.out.2.2.1, HD.out.2.2.1⟩
    have HS : Hid (xs.length ≤ 60 ∧ d1.length ≤ 60 ∧ d2.length ≤ 60) := ⟨HR0.out.2, HR1.out.2, HR2.out.2⟩
    have HDD : Hid (D < W.heap.size ∧ W.heap[D]? = some (.deferred (some [])) ∧ m2.heap.size ≤ D) := ⟨HD.out.2.2.2.2, HD.out.2.1, by have := HD.out.1; omega⟩
    clear HR0 HR1 HR2 H3
    go_wp2_with fail
    refine (make_any W ga xs.length gc xs HD.out.2.2.2.1.prs H30.out.1.good.ok HD.out.2.2.2.1.nil (by have := HS.out.1; omega)).mono ?_
    rintro e m3 ⟨v3, er3, rfl, hE3, hB3⟩
    obtain ⟨rfl, b0, M0, e0, rfl, hR3⟩ := made_again hE3 H30.out.1.good H30.out.1.small
    have H31 : Hid (RunS m3 a0 N0 c0 xs ∧ RunS m3 a1 N1 c1 d1 ∧ RunS m3 a2 N2 c2 d2 ∧ RunS m3 b0 M0 e0 xs ∧ Below m2.heap.size m2 m3) := ⟨H30.out.1.kept hB3, H30.out.2.1.kept hB3, H30.out.2.2.1.kept hB3, hR3, H30.out.2.2.2.trans (hB3.mono H30.out.2.2.2.size)⟩
    have HDm3 : Hid (D < m3.heap.size ∧ m3.heap[D]? = some (.deferred (some []))) := ⟨Nat.lt_of_lt_of_le HDD.out.1 hB3.size, (hB3.block _ HDD.out.1).trans HDD.out.2.1⟩
    clear hE3 hB3 hR3 H30
    have hrl := runsB_lit m3 [(a0, N0, c0, xs)] (by simp only [List.mem_cons, List.not_mem_nil, or_false, forall_eq]; exact H31.out.1)
    go_wp2_with fail
    refine (merge_any (m3.alloc (.cells #[.slice a0 N0 c0] 23)) (some ⟨m3.heap.size, 0, none⟩) 1 1 _ hrl (by simp)).mono ?_
    rintro e m4 ⟨v, er, rfl, hE, hBm⟩
    obtain ⟨rfl, g1, K1, f1, o1, rfl, hR, hL, hlen⟩ := merged_of (ds := [xs]) hE (by simp only [List.mem_cons, List.not_mem_nil, or_false, forall_eq]; exact H31.out.1.good) (by simp only [List.flatten_cons, List.flatten_nil, List.length_append, List.length_nil]; have := HS.out; omega)
    have hB : Below m3.heap.size m3 m4 := ((Below.refl _ m3).alloc (Nat.le_refl _) _).trans (hBm.mono (by simp))
    obtain rfl : xs = o1 := run_same H31.out.1.good hR.good (fun x => by rw [hL]; simp)
    have H32 : Hid (RunS m4 a0 N0 c0 xs ∧ RunS m4 a1 N1 c1 d1 ∧ RunS m4 a2 N2 c2 d2 ∧ RunS m4 b0 M0 e0 xs ∧ RunS m4 g1 K1 f1 xs ∧ Below m2.heap.size m2 m4) := ⟨H31.out.1.kept hB, H31.out.2.1.kept hB, H31.out.2.2.1.kept hB, H31.out.2.2.2.1.kept hB, hR, H31.out.2.2.2.2.trans (hB.mono H31.out.2.2.2.2.size)⟩
    have HDm4 : Hid (D < m4.heap.size ∧ m4.heap[D]? = some (.deferred (some []))) := ⟨Nat.lt_of_lt_of_le HDm3.out.1 hB.size, (hB.block _ HDm3.out.1).trans HDm3.out.2⟩
    clear hE hBm hR hL hlen hB hrl H31 HDm3
    have hrl := runsB_lit m4 [(a0, N0, c0, xs), (a1, N1, c1, d1), (a2, N2, c2, d2)] (by simp only [List.mem_cons, List.not_mem_nil, or_false, forall_eq_or_imp, forall_eq]; exact ⟨H32.out.1, H32.out.2.1, H32.out.2.2.1⟩)
    go_wp2_with fail
    refine (merge_any (m4.alloc (.cells #[.slice a0 N0 c0, .slice a1 N1 c1, .slice a2 N2 c2] 23)) (some ⟨m4.heap.size, 0, none⟩) 3 3 _ hrl (by simp)).mono ?_
    rintro e m5 ⟨v, er, rfl, hE, hBm⟩
    obtain ⟨rfl, g3, K3, f3, o3, rfl, hR, hL, hlen⟩ := merged_of (ds := [xs, d1, d2]) hE (by simp only [List.mem_cons, List.not_mem_nil, or_false, forall_eq_or_imp, forall_eq]; exact ⟨H32.out.1.good, H32.out.2.1.good, H32.out.2.2.1.good⟩) (by simp only [List.flatten_cons, List.flatten_nil, List.length_append, List.length_nil]; have := HS.out; omega)
    have hB : Below m4.heap.size m4 m5 := ((Below.refl _ m4).alloc (Nat.le_refl _) _).trans (hBm.mono (by simp))
    have HL3 : Hid (∀ x, lookP o3 x = lookP [xs, d1, d2].flatten x) := hL
    have H33 : Hid (RunS m5 a0 N0 c0 xs ∧ RunS m5 a1 N1 c1 d1 ∧ RunS m5 a2 N2 c2 d2 ∧ RunS m5 b0 M0 e0 xs ∧ RunS m5 g1 K1 f1 xs ∧ RunS m5 g3 K3 f3 o3 ∧ Below m2.heap.size m2 m5) := ⟨H32.out.1.kept hB, H32.out.2.1.kept hB, H32.out.2.2.1.kept hB, H32.out.2.2.2.1.kept hB, H32.out.2.2.2.2.1.kept hB, hR, H32.out.2.2.2.2.2.trans (hB.mono H32.out.2.2.2.2.2.size)⟩
    have HDm5 : Hid (D < m5.heap.size ∧ m5.heap[D]? = some (.deferred (some []))) := ⟨Nat.lt_of_lt_of_le HDm4.out.1 hB.size, (hB.block _ HDm4.out.1).trans HDm4.out.2⟩
    clear hE hBm hR hL hlen hB hrl H32 HDm4
    have hrl := runsB_lit m5 [(a0, N0, c0, xs), (a1, N1, c1, d1)] (by simp only [List.mem_cons, List.not_mem_nil, or_false, forall_eq_or_imp, forall_eq]; exact ⟨H33.out.1, H33.out.2.1⟩)
    go_wp2_with fail
    refine (merge_any (m5.alloc (.cells #[.slice a0 N0 c0, .slice a1 N1 c1] 23)) (some ⟨m5.heap.size, 0, none⟩) 2 2 _ hrl (by simp)).mono ?_
    rintro e m6 ⟨v, er, rfl, hE, hBm⟩
    obtain ⟨rfl, g2, K2, f2, o2, rfl, hR, hL, hlen⟩ := merged_of (ds := [xs, d1]) hE (by simp only [List.mem_cons, List.not_mem_nil, or_false, forall_eq_or_imp, forall_eq]; exact ⟨H33.out.1.good, H33.out.2.1.good⟩) (by simp only [List.flatten_cons, List.flatten_nil, List.length_append, List.length_nil]; have := HS.out; omega)
    have hB : Below m5.heap.size m5 m6 := ((Below.refl _ m5).alloc (Nat.le_refl _) _).trans (hBm.mono (by simp))
    have HL2 : Hid (∀ x, lookP o2 x = lookP [xs, d1].flatten x) := hL
    have HS2 : Hid (o2.length ≤ 120) := (by have h1 := HS.out; simp only [List.flatten_cons, List.flatten_nil, List.length_append, List.length_nil] at hlen; omega : o2.length ≤ 120)
    have H34 : Hid (RunS m6 a0 N0 c0 xs ∧ RunS m6 a1 N1 c1 d1 ∧ RunS m6 a2 N2 c2 d2 ∧ RunS m6 b0 M0 e0 xs ∧ RunS m6 g1 K1 f1 xs ∧ RunS m6 g3 K3 f3 o3 ∧ RunS m6 g2 K2 f2 o2 ∧ Below m2.heap.size m2 m6) := ⟨H33.out.1.kept hB, H33.out.2.1.kept hB, H33.out.2.2.1.kept hB, H33.out.2.2.2.1.kept hB, H33.out.2.2.2.2.1.kept hB, H33.out.2.2.2.2.2.1.kept hB, hR, H33.out.2.2.2.2.2.2.trans (hB.mono H33.out.2.2.2.2.2.2.size)⟩
    have HDm6 : Hid (D < m6.heap.size ∧ m6.heap[D]? = some (.deferred (some []))) := ⟨Nat.lt_of_lt_of_le HDm5.out.1 hB.size, (hB.block _ HDm5.out.1).trans HDm5.out.2⟩
    clear hE hBm hR hL hlen hB hrl H33 HDm5
    have hrl := runsB_lit m6 [(g2, K2, f2, o2), (a2, N2, c2, d2)] (by simp only [List.mem_cons, List.not_mem_nil, or_false, forall_eq_or_imp, forall_eq]; exact ⟨H34.out.2.2.2.2.2.2.1, H34.out.2.2.1⟩)
    go_wp2_with fail
    refine (merge_any (m6.alloc (.cells #[.slice g2 K2 f2, .slice a2 N2 c2] 23)) (some ⟨m6.heap.size, 0, none⟩) 2 2 _ hrl (by simp)).mono ?_
    rintro e m7 ⟨v, er, rfl, hE, hBm⟩
    obtain ⟨rfl, g4, K4, f4, o4, rfl, hR, hL, hlen⟩ := merged_of (ds := [o2, d2]) hE (by simp only [List.mem_cons, List.not_mem_nil, or_false, forall_eq_or_imp, forall_eq]; exact ⟨H34.out.2.2.2.2.2.2.1.good, H34.out.2.2.1.good⟩) (by simp only [List.flatten_cons, List.flatten_nil, List.length_append, List.length_nil]; have := HS.out; have := HS2.out; omega)
    have hB : Below m6.heap.size m6 m7 := ((Below.refl _ m6).alloc (Nat.le_refl _) _).trans (hBm.mono (by simp))
    obtain rfl : o3 = o4 := run_same H34.out.2.2.2.2.2.1.good hR.good (fun x => by rw [hL, HL3.out]; simp [look_app, HL2.out, Option.or_assoc])
    have H35 : Hid (RunS m7 a0 N0 c0 xs ∧ RunS m7 a1 N1 c1 d1 ∧ RunS m7 a2 N2 c2 d2 ∧ RunS m7 b0 M0 e0 xs ∧ RunS m7 g1 K1 f1 xs ∧ RunS m7 g3 K3 f3 o3 ∧ RunS m7 g2 K2 f2 o2 ∧ RunS m7 g4 K4 f4 o3 ∧ Below m2.heap.size m2 m7) := ⟨H34.out.1.kept hB, H34.out.2.1.kept hB, H34.out.2.2.1.kept hB, H34.out.2.2.2.1.kept hB, H34.out.2.2.2.2.1.kept hB, H34.out.2.2.2.2.2.1.kept hB, H34.out.2.2.2.2.2.2.1.kept hB, hR, H34.out.2.2.2.2.2.2.2.trans (hB.mono H34.out.2.2.2.2.2.2.2.size)⟩
    have HDm7 : Hid (D < m7.heap.size ∧ m7.heap[D]? = some (.deferred (some []))) := ⟨Nat.lt_of_lt_of_le HDm6.out.1 hB.size, (hB.block _ HDm6.out.1).trans HDm6.out.2⟩
    clear hE hBm hR hL hlen hB hrl H34 HDm6
    have hc0 := run_string m7 a0 N0 c0 (runB xs) H35.out.1.bytes
    have hc3 := run_string m7 b0 M0 e0 (runB xs) H35.out.2.2.2.1.bytes
    have hc4 := run_string m7 g1 K1 f1 (runB xs) H35.out.2.2.2.2.1.bytes
    have hc5 := run_string m7 g3 K3 f3 (runB o3) H35.out.2.2.2.2.2.1.bytes
    have hc7 := run_string m7 g4 K4 f4 (runB o3) H35.out.2.2.2.2.2.2.2.1.bytes
    go_upto_region 18 with fail
    generalize (⟨(runB xs).toArray⟩ : ByteArray) = st0 at *
    generalize (⟨(runB o3).toArray⟩ : ByteArray) = st3 at *
    have HF3 : Hid (Below w.heap.size w m7 ∧ m2.heap.size ≤ D ∧ GoodV xs ∧ GoodV d1 ∧ GoodV d2 ∧ findR (runB o3) ask = fndR (lookP [xs, d1, d2].flatten ask)) := ⟨HBw.out.trans (H35.out.2.2.2.2.2.2.2.2.mono HBw.out.size), HDD.out.2.2, H35.out.1.good, H35.out.2.1.good, H35.out.2.2.1.good, by rw [find_run H35.out.2.2.2.2.2.1.good, HL3.out]⟩
    have hfd := find_any m7 g3 K3 f3 ask (runB o3) H35.out.2.2.2.2.2.1.bytes H35.out.2.2.2.2.2.1.nil H35.out.2.2.2.2.2.1.cap (by have := H35.out.2.2.2.2.2.1.short; omega)
    obtain ⟨fx, fe, hfx⟩ : ∃ fx fe, findR (runB o3) ask = (fx, fe) := ⟨_, _, rfl⟩
    have HFx : Hid (findR (runB o3) ask = (fx, fe)) := hfx
    rw [hfx] at hfd
    simp only at hfd
    clear hfx
    go_wp2_with fail
    refine hfd.mono ?_
    clear hfd
    rintro e m8 ⟨rfl, hB8⟩
    have hR8 := runsB_lit m8 [(a0, N0, c0, xs), (a1, N1, c1, d1), (a2, N2, c2, d2)] (by simp only [List.mem_cons, List.not_mem_nil, or_false, forall_eq_or_imp, forall_eq]; exact ⟨H35.out.1.kept hB8, H35.out.2.1.kept hB8, H35.out.2.2.1.kept hB8⟩)
    have hBa := (Below.refl m8.heap.size m8).alloc (Nat.le_refl _) (.cells #[.slice a0 N0 c0, .slice a1 N1 c1, .slice a2 N2 c2] 23)
    have H9 : Hid (RunsB (m8.alloc (.cells #[.slice a0 N0 c0, .slice a1 N1 c1, .slice a2 N2 c2] 23)) (some ⟨m8.heap.size, 0, none⟩) 3 3 ([xs, d1, d2].map runB) ∧ Below m7.heap.size m7 (m8.alloc (.cells #[.slice a0 N0 c0, .slice a1 N1 c1, .slice a2 N2 c2] 23)) ∧ (∀ d ∈ [xs, d1, d2], GoodV d) ∧ findR (runB o3) ask = fndR (lookP [xs, d1, d2].flatten ask)) := ⟨hR8, hB8.trans (hBa.mono hB8.size), by simp only [List.mem_cons, List.not_mem_nil, or_false, forall_eq_or_imp, forall_eq]; exact ⟨HF3.out.2.2.1, HF3.out.2.2.2.1, HF3.out.2.2.2.2.1⟩, HF3.out.2.2.2.2.2⟩
    have HFIN : Hid (∀ Y, Below m7.heap.size m7 Y → Y.heap[D]? = some (.deferred (some [])) ∧ Below w.heap.size w (Y.putObj D (.deferred none))) := fun Y hY => ⟨(hY.block _ HDm7.out.1).trans HDm7.out.2, below_put (HF3.out.1.trans (hY.mono HF3.out.1.size)) (Nat.le_trans HBw.out.size HF3.out.2.1) _⟩
    clear hR8 hBa hB8 H35 HF3 HL3 HL2 HS2 HDm7 HDD HBw HS
    generalize hDS : [xs, d1, d2] = DS at *
    have HDS : Hid (DS.length = 3) := (by rw [← hDS]; rfl : DS.length = 3)
    clear hDS
    go_wp2_with fail
    go_loopw [161] (fun i wr => ∃ k : Nat, k ≤ 3 ∧ i = .int .i64 (k : Int) ∧ Hid (Below (m8.alloc (.cells #[.slice a0 N0 c0, .slice a1 N1 c1, .slice a2 N2 c2] 23)).heap.size (m8.alloc (.cells #[.slice a0 N0 c0, .slice a1 N1 c1, .slice a2 N2 c2] 23)) wr ∧ lookP DS.flatten ask = lookP (DS.drop k).flatten ask)) (fun i _ => 3 - (intOf i).toNat)
    case atStart => exact ⟨0, Nat.zero_le _, rfl, Below.refl _ _, by rw [List.drop_zero]⟩
    case round =>
      obtain ⟨k, hk, rfl, H⟩ := hrel
      by_cases hlt : k < 3
      · obtain ⟨d, hd⟩ : ∃ d, DS[k]? = some d := ⟨_, List.getElem?_eq_getElem (by rw [HDS.out]; exact hlt)⟩
        have hgd := H9.out.2.2.1 d (List.mem_of_getElem? hd)
        obtain ⟨b5, o5, he5, hc5⟩ := (H9.out.1.kept H.out.1).cells (by omega)
        obtain ⟨ad5, n5, cp5, t5, hby5, hnil5, hcap5, hle5⟩ := hc5 k (runB d) (by rw [List.getElem?_map, hd]; rfl)
        cases he5
        rw [Nat.zero_add] at t5
        have i2 : (k : Int) < 3 := by omega
        have i3 : ¬ 3 ≤ k := by omega
        have hfd := find_any wr ad5 n5 cp5 ask (runB d) hby5 hnil5 hcap5 hle5
        have hsp : lookP (DS.drop k).flatten ask = (lookP d ask).or (lookP (DS.drop (k + 1)).flatten ask) := by
          rw [flat_drop hd, look_app]
        have hfr := find_run hgd ask
        cases hlk : lookP d ask with
        | some yv =>
          rw [hlk] at hfr hsp
          simp only [Option.some_or] at hsp
          have hall := H9.out.2.2.2
          rw [H.out.2, hsp, HFx.out] at hall
          have hall2 : fx = (yv : Int) ∧ fe = 0 := Prod.mk.inj hall
          obtain ⟨rfl, rfl⟩ := hall2
          rw [hfr] at hfd
          simp only [fndR] at hfd
          have HX : Hid (Below m7.heap.size m7 wr) := H9.out.2.1.trans (H.out.1.mono H9.out.2.1.size)
          clear hfr hsp hlk hgd hd hc5 hby5 H
          go_wp2_with fail
          refine hfd.mono ?_
          clear hfd
          rintro e m10 ⟨rfl, hB10⟩
          have HX2 : Hid (Below m7.heap.size m7 m10) := HX.out.trans (hB10.mono HX.out.size)
          clear hB10
          go_wp2_with fail
          refine (HW.out _).mono ?_
          rintro e m11 ⟨rfl, hB11⟩
          have HX3 : Hid (Below m7.heap.size m7 m11) := HX2.out.trans (hB11.mono HX2.out.size)
          clear hB11
          go_wp2_with fail
          refine vfin_m (v := .bool true) (HFIN.out _ HX3.out).1 (by simp [results, Try.results4, go_sem]) ⟨rfl, (HFIN.out _ HX3.out).2⟩
        | none =>
          rw [hlk] at hfr hsp
          simp only [Option.none_or] at hsp
          rw [hfr] at hfd
          simp only [fndR] at hfd
          have HX : Hid (lookP DS.flatten ask = lookP (DS.drop (k + 1)).flatten ask) := H.out.2.trans hsp
          clear hfr hsp hlk hgd hd hc5 hby5
          go_wp2_with fail
          refine hfd.mono ?_
          clear hfd
          rintro e m10 ⟨rfl, hB10⟩
          have HX2 : Hid (Below (m8.alloc (.cells #[.slice a0 N0 c0, .slice a1 N1 c1, .slice a2 N2 c2] 23)).heap.size (m8.alloc (.cells #[.slice a0 N0 c0, .slice a1 N1 c1, .slice a2 N2 c2] 23)) m10) := H.out.1.trans (hB10.mono H.out.1.size)
          clear hB10 H
          go_wp2
          go_roundw
          case rel => exact ⟨k + 1, by omega, by go_num, HX2.out, HX.out⟩
          case measure => simp [intOf]; omega
      · obtain rfl : k = 3 := by omega
        have hall := H9.out.2.2.2
        rw [H.out.2, List.drop_of_length_le (by rw [HDS.out]; exact Nat.le_refl _), HFx.out] at hall
        have hall2 : fx = 0 ∧ fe = 4 := Prod.mk.inj hall
        obtain ⟨rfl, rfl⟩ := hall2
        have HX : Hid (Below m7.heap.size m7 wr) := H9.out.2.1.trans (H.out.1.mono H9.out.2.1.size)
        clear hall H
        go_wp2_with fail
        refine (HW.out _).mono ?_
        rintro e m11 ⟨rfl, hB11⟩
        have HX3 : Hid (Below m7.heap.size m7 m11) := HX.out.trans (hB11.mono HX.out.size)
        clear hB11
        go_wp2_with fail
        refine vfin_m (v := .bool true) (HFIN.out _ HX3.out).1 (by simp [results, Try.results4, go_sem]) ⟨rfl, (HFIN.out _ HX3.out).2⟩
theorem runBack_law (w : World) (x y z : Sl) (ask : Int) (h : x.In w ∧ y.In w ∧ z.In w) (h0 : 0 ≤ ask) (_ : ask ≤ 18446744073709551615) :
    Calls Try.prog 4 #[.agg #[x.v, y.v, z.v], .int .u64 ask] w fun e w' => e = .returned (.bool true) ∧ Below w.heap.size w w' := by
  obtain ⟨n, rfl⟩ := Int.eq_ofNat_of_zero_le h0
  exact runBack_walk w x y z n h.1 h.2.1 h.2.2
end Go.Proofs.Ytfkepoibgmljkaa
