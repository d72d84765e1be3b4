/- Proved here: for every script and every number the law DiskCut returns true, and its arguments read as before. No condition. -/
import Derived.Test.YtibnppclnapjkaaDiskArg
namespace Go.Proofs.Ytibnppclnapjkaa
open Go.ChangeShapes Go.WideShapes Go.ChangeAt Go.RowKit Go.Maps

theorem norm_neg (n : Int) (h : n < 0) : ∃ N : Nat, N < 64 ∧ -((n + 1).tmod 64) = (N : Int) := by
  have e : -((n + 1).tmod 64) = (-(n + 1)).tmod 64 := by rw [Int.neg_tmod]
  rw [e, Int.tmod_eq_emod_of_nonneg (by omega)]
  exact ⟨((-(n + 1)) % 64).toNat, by omega, by omega⟩
theorem norm_pos (n : Int) : ∃ N : Nat, N < 64 ∧ n % 64 = (N : Int) := ⟨(n % 64).toNat, by omega, by omega⟩

def lim (k : Nat) : Nat := k * 4194305
theorem lim_succ (k : Nat) : lim k + 4194305 ≤ lim (k + 1) := by unfold lim; omega

theorem fits_short {w : World} {ops : List GOp} (h : Fits w ops) : Fits w ((ops.map GOp.short).take 60) := by
  intro o ho
  have ho' := List.mem_of_mem_take ho
  obtain ⟨o0, hm, rfl⟩ := List.mem_map.1 ho'
  obtain ⟨h1, h2, h3, h4, h5, l, h6⟩ := h o0 hm
  unfold GOp.short
  split
  · refine ⟨h1, h2, by simp only; omega, fun e => ⟨by have := (h4 e).1; simp only; omega, (h4 e).2⟩, by simp only; omega, _, h6.take (min o0.len 300) (by omega)⟩
  · exact ⟨h1, h2, h3, h4, h5, l, h6⟩

theorem not_cut (S : DG) (nm l : List UInt8) (hc : S.cut = false) : ¬ (S.app nm l).2 = 6 := by
  unfold DG.app
  split
  · simp
  · split
    · simp
    · split
      · simp
      · rw [pieces_free _ S nm l hc (Nat.le_refl _)]
        simp

set_option maxRecDepth 20000 in
set_option maxHeartbeats 8000000 in
theorem diskCut_walk (a : Option Addr) (n0 c0 : Nat) (ops : List GOp) (n : Int) (w : World) (hops : Ops w a n0 ops) (hfits : Fits w ops) (hn0 : n0 ≤ 9223372036854775807) (h0 : -9223372036854775808 ≤ n) (h1 : n ≤ 9223372036854775807) :
    Calls Try.prog 4 #[.slice a n0 c0, .int .i64 n] w fun e w' => e = .returned (.bool true) ∧ Below w.heap.size w w' := by
  go_enter Try.func4, Try.ntmps4
  go_wp2_with fail
  refine (wakes_any _).mono ?_
  rintro e w1 ⟨rfl, B1⟩
  by_cases hneg : n < 0
  · obtain ⟨N, hN64, hN⟩ := norm_neg n hneg
    -- the two disks
    go_wp2_with fail
    refine (new_any w1).mono ?_
    rintro e w2 ⟨rfl, hd2, B2⟩
    have hs2 := B2.size
    have hd2lt := hd2.lt
    go_wp2_with fail
    refine (new_any w2).mono ?_
    rintro e w3 ⟨rfl, he3, B3⟩
    have hd3 := hd2.below B3
    have hct := cut_any _ _ _ _ N he3 (by omega)
    go_wp2_with fail
    refine hct.mono ?_
    rintro e w4 ⟨rfl, he4, hT4⟩
    have hd4 := hd3.turn hT4 (by rintro k hk (rfl | rfl) <;> (have := hd2lt _ hk; omega))
    have B3w : Below w.heap.size w w3 := below_more (below_more B1 B2) B3
    have B4w : Below w.heap.size w w4 := B3w.trans (hT4.below B3w.size (by have h1 := B1.size; rintro k (rfl | rfl) <;> omega))
    have hops4 : Ops w4 a n0 ops := ⟨hops.len, fun k o ho => by
      obtain ⟨b, off, e, hc⟩ := hops.cells k o ho
      exact ⟨b, off, e, fun j v hv => by have := hc j v hv; rw [B4w.cell (World.block_lt_of_cell? w _ this)]; exact this⟩, fun o ho => by
      obtain ⟨h1, h2, h3, h4, h5, l, h6⟩ := hfits o ho
      exact ⟨h1, h2, h3, h4, l, h6.below B4w⟩⟩
    clear hct hd2 he3 hd3 B2 B3
    go_wp2_with fail
    refine (script_any a n0 c0 ops w4 hops4 hn0).mono ?_
    rintro e w5 ⟨sa, c5, m, rfl, Hm, ho5, B5⟩
    have hfS := fits_short hfits
    have hm60 : m ≤ 60 := by rw [Hm.out]; simp; omega
    generalize (ops.map GOp.short).take 60 = sops at *
    have hseen5 : Seen w5 sa sops := by
      intro k o ho
      have hk := (List.getElem?_eq_some_iff.1 ho).1
      obtain ⟨g, cap, e, hg⟩ : ∃ g cap, Value.slice sa m c5 = .slice (some ⟨g, 0, none⟩) m cap ∧ g < w5.heap.size := by
        rcases ho5.2 with ⟨_, h0⟩ | ⟨g, cap, cur, e, _⟩
        · have := Hm.out; omega
        · exact ⟨g, cap, e, (ho5.lt g (by rw [e]; rfl)).2⟩
      cases e
      refine ⟨g, rfl, hg, fun j v hv => ?_⟩
      have := ho5.cells (g := g) rfl (k * 5 + j) v (flat_get sops k j o v ho hv)
      rw [Addr.add_lit, Nat.zero_add] at this
      exact this
    have hsa5 : ∀ x, sa = some x → w4.heap.size ≤ x.block ∧ x.block < w5.heap.size := by
      intro x hx
      have := ho5.lt x.block (by rw [hx]; rfl)
      exact this
    have B5w := below_more B4w B5
    have hlt4d := hd4.lt
    have hlt4e := he4.lt
    have h0D : Two w w5 sa sops (w1.heap.size + 1) (w2.heap.size + 1) S0 { S0 with cut := true, left := N } (fun k => k = w1.heap.size ∨ k = w1.heap.size + 1) (fun k => k = w2.heap.size ∨ k = w2.heap.size + 1) :=
      ⟨hseen5, B5w, hd4.below B5, he4.below B5, (by have h1 := B1.size; rintro k (rfl | rfl) <;> exact ⟨by omega, by have := hd2lt w1.heap.size (.inl rfl); have := hd2lt (w1.heap.size + 1) (.inr rfl); omega⟩), (by have h1 := B1.size; rintro k (rfl | rfl) <;> omega),
        fun x hx => ⟨fun h => by have := hlt4d _ h; have := hsa5 x hx; omega, fun h => by have := hlt4e _ h; have := hsa5 x hx; omega, (hsa5 x hx).2⟩⟩
    have hrel0 : Rel N S0 { S0 with cut := true, left := N } := ⟨rfl, rfl, rfl, rfl, rfl, by show N + 0 = N; omega⟩
    have hfine0 : Fine S0 0 := ⟨fun _ => by simp [DG.bs], by simp, by simp⟩
    have HT0 : Hid (∃ D E Fp Gp, Two w w5 sa sops (w1.heap.size + 1) (w2.heap.size + 1) D E Fp Gp ∧ Rel N D E ∧ Fine D (lim 0)) := ⟨_, _, _, _, h0D, hrel0, hfine0.more (Nat.zero_le _)⟩
    generalize w1.heap.size + 1 = p at *
    generalize w2.heap.size + 1 = q at *
    have HF : Hid (Fits w sops) := hfS
    clear hfS hrel0 hfine0 h0D hseen5 hsa5 hlt4d hlt4e B5w B5 ho5 hops4 B4w B3w hd4 hT4 he4 hd2lt hs2 hops hfits h0 h1 B1
    go_wp2_with fail
    go_loopw [7, 8, 45] (fun v7 v8 i wr => ∃ k : Nat, k ≤ m ∧ i = .int .i64 k ∧
        ((v7 = .bool false ∧ v8 = .pointer none ∧ Hid (∃ D E Fp Gp, Two w wr sa sops p q D E Fp Gp ∧ Rel N D E ∧ Fine D (lim k))) ∨
         (∃ r, v7 = .bool true ∧ v8 = .pointer (some ⟨r, 0, none⟩) ∧ Hid (∃ E L Gp Hp, Two w wr sa sops q r E L Gp Hp ∧ E.cut = true ∧ E.left = 0 ∧ E.wr = N ∧ L.f = E.f ∧ L.n = E.n ∧ Fine E (lim k)))))
      (fun _ _ i _ => m - (intOf i).toNat)
    case atStart => exact ⟨0, Nat.zero_le _, rfl, .inl ⟨rfl, rfl, HT0⟩⟩
    case round =>
      clear HT0
      obtain ⟨k, hk, rfl, hph⟩ := hrel
      by_cases hlt : k < m
      · have i3 : (k : Int) < (m : Int) := by omega
        have i4 : (0 : Int) ≤ (k : Int) := by omega
        obtain ⟨o, ho⟩ : ∃ o, sops[k]? = some o := ⟨sops[k]'(by have := Hm.out; omega), by have := Hm.out; simp [← this, hlt]⟩
        have hfit := HF.out o (List.mem_of_getElem? ho)
        obtain ⟨l, hl⟩ := hfit.2.2.2.2.2
        obtain ⟨kind, name, to, nn, ad, len, cap⟩ := o
        have HFit : Hid _ := hfit
        have HL : Hid (Bytes w ad len l) := hl
        clear hfit hl
        rcases hph with ⟨rfl, rfl, HT⟩ | ⟨r, rfl, rfl, HT⟩
        · obtain ⟨D, E, Fp, Gp, hTwo, hRel, hFine⟩ := HT.out
          obtain ⟨g, rfl, hg, hc⟩ := hTwo.seen k _ ho
          have q0 : wr.cell? ⟨g, k * 5, none⟩ = some (.int .i64 kind) := by have := hc 0 _ rfl; rw [Nat.add_zero] at this; exact this
          have q1 : wr.cell? ⟨g, k * 5 + 1, none⟩ = some (.string name) := hc 1 _ rfl
          have q2 : wr.cell? ⟨g, k * 5 + 2, none⟩ = some (.string to) := hc 2 _ rfl
          have q3 : wr.cell? ⟨g, k * 5 + 3, none⟩ = some (.int .i64 nn) := hc 3 _ rfl
          have q4 : wr.cell? ⟨g, k * 5 + 4, none⟩ = some (.slice ad len cap) := hc 4 _ rfl
          have hTB := hTwo.grown (below_box (o := .cells #[.int .i64 kind, .string name, .string to, .int .i64 nn, .slice ad len cap] 47) (Below.refl wr.heap.size wr))
          have nbF : ¬ Fp wr.heap.size := fun h => by have := hTwo.hd.lt _ h; omega
          have nbG : ¬ Gp wr.heap.size := fun h => by have := hTwo.he.lt _ h; omega
          clear hc HT hTwo
          obtain ⟨wB, hwB⟩ : ∃ wB, wB = wr.alloc (.cells #[.int .i64 kind, .string name, .string to, .int .i64 nn, .slice ad len cap] 47) := ⟨_, rfl⟩
          rw [← hwB] at hTB
          have b0 : wB.cell? ⟨wr.heap.size, 0, none⟩ = some (.int .i64 kind) := by rw [hwB]; simp
          have b1 : wB.cell? ⟨wr.heap.size, 1, none⟩ = some (.string name) := by rw [hwB]; simp
          have b2 : wB.cell? ⟨wr.heap.size, 2, none⟩ = some (.string to) := by rw [hwB]; simp
          have b3 : wB.cell? ⟨wr.heap.size, 3, none⟩ = some (.int .i64 nn) := by rw [hwB]; simp
          have b4 : wB.cell? ⟨wr.heap.size, 4, none⟩ = some (.slice ad len cap) := by rw [hwB]; simp
          have hFE : Fine E (lim k) := ⟨fun x => by rw [← hRel.bs x]; exact hFine.bs x, by rw [← hRel.n]; exact hFine.n, by rw [← hRel.wr]; exact hFine.wr⟩
          have hkb : lim k ≤ 1000000000 := by unfold lim; omega
          have hTD := hTB.grown (w' := wB.drew) ⟨rfl, rfl, rfl, Nat.le_refl _, fun _ _ => rfl⟩
          have hst1 := step_in w wB.drew p D Fp _ _ l HFit.out HL.out hTD.below hTD.hd (fun k hk => (hTD.fp k hk).1) hFine hkb
          have hMet := hRel.step ⟨kind, name, to, nn, ad, len, cap⟩ l
          have hF2 := hFine.step ⟨kind, name, to, nn, ad, len, cap⟩ l
          have hF3 := hFE.step ⟨kind, name, to, nn, ad, len, cap⟩ l
          have hst2 := fun (w6 : World) (hd6 : IsDisk w6 p (D.step ⟨kind, name, to, nn, ad, len, cap⟩ l).1 (grow Fp wB.drew w6)) (hT6 : Turn Fp wB.drew w6) => step_in w w6 q E Gp _ _ l HFit.out HL.out (hTD.stepD hd6 hT6).below (hTD.stepD hd6 hT6).he (hTD.gp) hFE hkb
          have hTwoEnd := fun (w6 w7 : World) (hd6 : IsDisk w6 p (D.step ⟨kind, name, to, nn, ad, len, cap⟩ l).1 (grow Fp wB.drew w6)) (hT6 : Turn Fp wB.drew w6) (he7 : IsDisk w7 q (E.step ⟨kind, name, to, nn, ad, len, cap⟩ l).1 (grow Gp w6 w7)) (hT7 : Turn Gp w6 w7) => (hTD.stepD hd6 hT6).stepE he7 hT7
          have hwr := writes_any q E Gp wB hTB.he
          generalize D.step ⟨kind, name, to, nn, ad, len, cap⟩ l = DD at *
          generalize E.step ⟨kind, name, to, nn, ad, len, cap⟩ l = EE at *
          have HS2 : Hid _ := hst2
          have HTE : Hid _ := hTwoEnd
          have HM : Hid (Met N DD EE) := hMet
          have HF2 : Hid (Fine DD.1 (lim (k + 1))) := hF2.more (lim_succ k)
          have HF3 : Hid (Fine EE.1 (lim (k + 1))) := hF3.more (lim_succ k)
          have tok1 : True := trivial
          clear hst2 hTwoEnd hMet hF2 hF3 hRel hFine hFE hTD hTB
          go_wp2_with fail
          rw [← hwB]
          clear hwB
          refine hwr.mono ?_
          rintro e w' ⟨rfl, rfl⟩
          clear hwr
          go_wp2_with fail
          go_region_held3 (fun W => W.cell? ⟨wr.heap.size, 0, none⟩ = some (.int .i64 kind) ∧ W.cell? ⟨wr.heap.size, 1, none⟩ = some (.string name) ∧ W.cell? ⟨wr.heap.size, 2, none⟩ = some (.string to) ∧ W.cell? ⟨wr.heap.size, 3, none⟩ = some (.int .i64 nn) ∧ W.cell? ⟨wr.heap.size, 4, none⟩ = some (.slice ad len cap))
            (first
              | (go_split_ands
                 refine ⟨by go_keep, by go_keep, by go_keep, by go_keep, by go_keep⟩)
              | (go_split_ands
                 exact ⟨hT7.cell (hT6.cell b0 nbF) nbG, hT7.cell (hT6.cell b1 nbF) nbG, hT7.cell (hT6.cell b2 nbF) nbG, hT7.cell (hT6.cell b3 nbF) nbG, hT7.cell (hT6.cell b4 nbF) nbG⟩)
              | (go_split_ands
                 exact ⟨hT6.cell b0 nbF, hT6.cell b1 nbF, hT6.cell b2 nbF, hT6.cell b3 nbF, hT6.cell b4 nbF⟩))
            (first
              | (go_at_call 21; have _t := tok1; refine hst1.mono ?_; rintro e w6 ⟨rfl, hd6, hT6⟩; have hst3 := HS2.out w6 hd6 hT6; clear tok1)
              | (go_at_call 21; refine hst3.mono ?_; rintro e w7 ⟨rfl, he7, hT7⟩))
          have hTE := HTE.out w6 w7 hd6 hT6 he7 hT7
          clear HTE HS2 hst1 hst3 b0 b1 b2 b3 b4 q0 q1 q2 q3 q4 nbF nbG hd6 he7 hT6 hT7 HFit HL
          generalize grow Fp w'.drew w6 = F7 at *
          generalize grow Gp w6 w7 = G7 at *
          have hwd := writes_any p DD.1 F7 w7 hTE.hd
          rcases HM.out with ⟨hle, hxy, hR⟩ | ⟨hgt, hx0, hy6, hEw, hEl, hEc⟩
          · have i5 : (DD.1.wr : Int) ≤ (N : Int) := by omega
            have hwre := hR.wr
            have hal := alike_any p q DD.1 EE.1 F7 G7 w7 hTE.hd hTE.he hR.f (fun x bs hx => by have := HF2.out.bs x; simp [DG.bs, hx] at this; omega) (by have := HF2.out.n; omega) (by have := HF3.out.n; omega)
            have HEnd : Hid (∀ w8, Below w7.heap.size w7 w8 → Two w w8 (some ⟨g, 0, none⟩) sops p q DD.1 EE.1 F7 G7) := fun w8 B8 => hTE.grown B8
            have HR : Hid (Rel N DD.1 EE.1) := hR
            clear hTE hR HM hle
            go_wp2_with fail
            refine hwd.mono ?_
            rintro e w8 ⟨rfl, rfl⟩
            go_wp2_with fail
            refine hal.mono ?_
            rintro e w9 ⟨rfl, B9⟩
            have hT9 := HEnd.out w9 B9
            have hw1 := writes_any p DD.1 F7 w9 hT9.hd
            have hw2 := writes_any q EE.1 G7 w9 hT9.he
            have HT9 : Hid _ := hT9
            clear HEnd hal hwd hT9 B9
            go_wp2_with fail
            refine hw1.mono ?_
            rintro e w10 ⟨rfl, rfl⟩
            go_wp2_with fail
            refine hw2.mono ?_
            rintro e w11 ⟨rfl, rfl⟩
            go_wp2
            refine ⟨⟨k + 1, by omega, by simp, .inl ⟨by simp, by simp, ⟨_, _, _, _, HT9.out, HR.out, HF2.out⟩⟩⟩, by simp [intOf]; omega⟩
          · have i5 : ¬ (DD.1.wr : Int) ≤ (N : Int) := by omega
            have hwe := writes_any q EE.1 G7 w7 hTE.he
            have hcp := copy_any q EE.1 G7 w7 hTE.he (fun x bs hx => by have := HF3.out.bs x; simp [DG.bs, hx] at this; omega) (by have := HF3.out.n; omega)
            have HEnd : Hid (∀ r w8, IsDisk w8 r EE.1.copy (grow (fun _ => False) w7 w8) → Below w7.heap.size w7 w8 → Two w w8 (some ⟨g, 0, none⟩) sops q r EE.1 EE.1.copy G7 (grow (fun _ => False) w7 w8)) := fun r w8 hc B8 => hTE.copied hc B8
            have HX : Hid (EE.1.cut = true ∧ EE.1.left = 0 ∧ EE.1.wr = N) := ⟨hEc, hEl, hEw⟩
            clear hTE HM hgt hEl hEc
            go_wp2_with fail
            refine hwd.mono ?_
            rintro e w8 ⟨rfl, rfl⟩
            go_wp2_with fail
            refine hwe.mono ?_
            rintro e w9 ⟨rfl, rfl⟩
            go_wp2_with fail
            refine hcp.mono ?_
            rintro e w10 ⟨r, rfl, hc10, B10⟩
            have HT9 : Hid _ := HEnd.out r w10 hc10 B10
            clear HEnd hcp hwd hwe hc10 B10
            go_wp2
            refine ⟨⟨k + 1, by omega, by simp, .inr ⟨r, by simp, by simp, ⟨_, _, _, _, HT9.out, HX.out.1, HX.out.2.1, HX.out.2.2, rfl, rfl, HF3.out⟩⟩⟩, by simp [intOf]; omega⟩
        · obtain ⟨E, L, Gp, Hp, hTwo, hEc, hEl, hEw, hLf, hLn, hFine⟩ := HT.out
          obtain ⟨g, rfl, hg, hc⟩ := hTwo.seen k _ ho
          have q0 : wr.cell? ⟨g, k * 5, none⟩ = some (.int .i64 kind) := by have := hc 0 _ rfl; rw [Nat.add_zero] at this; exact this
          have q1 : wr.cell? ⟨g, k * 5 + 1, none⟩ = some (.string name) := hc 1 _ rfl
          have q2 : wr.cell? ⟨g, k * 5 + 2, none⟩ = some (.string to) := hc 2 _ rfl
          have q3 : wr.cell? ⟨g, k * 5 + 3, none⟩ = some (.int .i64 nn) := hc 3 _ rfl
          have q4 : wr.cell? ⟨g, k * 5 + 4, none⟩ = some (.slice ad len cap) := hc 4 _ rfl
          have hTB := hTwo.grown (below_box (o := .cells #[.int .i64 kind, .string name, .string to, .int .i64 nn, .slice ad len cap] 47) (Below.refl wr.heap.size wr))
          have nbG : ¬ Gp wr.heap.size := fun h => by have := hTwo.hd.lt _ h; omega
          clear hc HT hTwo
          obtain ⟨wB, hwB⟩ : ∃ wB, wB = wr.alloc (.cells #[.int .i64 kind, .string name, .string to, .int .i64 nn, .slice ad len cap] 47) := ⟨_, rfl⟩
          rw [← hwB] at hTB
          have hbz : wr.heap.size < wB.heap.size := by rw [hwB]; simp
          have b0 : wB.cell? ⟨wr.heap.size, 0, none⟩ = some (.int .i64 kind) := by rw [hwB]; simp
          have b1 : wB.cell? ⟨wr.heap.size, 1, none⟩ = some (.string name) := by rw [hwB]; simp
          have b2 : wB.cell? ⟨wr.heap.size, 2, none⟩ = some (.string to) := by rw [hwB]; simp
          have b3 : wB.cell? ⟨wr.heap.size, 3, none⟩ = some (.int .i64 nn) := by rw [hwB]; simp
          have b4 : wB.cell? ⟨wr.heap.size, 4, none⟩ = some (.slice ad len cap) := by rw [hwB]; simp
          have hkb : lim k ≤ 1000000000 := by unfold lim; omega
          have hbig : ∀ x bs, E.f x = some bs → bs.length ≤ 140737488355328 := fun x bs hx => by have := hFine.bs x; simp [DG.bs, hx] at this; omega
          have hwr := writes_any q E Gp wB hTB.hd
          have hcp := copy_any q E Gp wB hTB.hd hbig (by have := hFine.n; omega)
          have hstill := still E hEc hEl ⟨kind, name, to, nn, ad, len, cap⟩ l
          have hfc : Fine E.copy 0 := ⟨hFine.bs, hFine.n, Nat.le_refl _⟩
          have hst2 := fun (w6 : World) (hT6 : Two w w6 (some ⟨g, 0, none⟩) sops q r E L Gp Hp) => step_in w w6 q E Gp _ _ l HFit.out HL.out hT6.below hT6.hd (fun k hk => (hT6.fp k hk).1) hFine hkb
          rw [hstill.1] at hst2
          have hst1 := fun (w6 : World) (pr : Nat) (Xp : Nat → Prop) (hB6 : Below w.heap.size w w6) (hc6 : IsDisk w6 pr E.copy Xp) (hX : ∀ k, Xp k → w.heap.size ≤ k) => step_in w w6 pr E.copy Xp _ _ l HFit.out HL.out hB6 hc6 hX hfc (by omega)
          generalize hPP : E.copy.step ⟨kind, name, to, nn, ad, len, cap⟩ l = PP at *
          generalize (E.step ⟨kind, name, to, nn, ad, len, cap⟩ l).2 = y at *
          have HS1 : Hid _ := hst1
          have HS2 : Hid _ := hst2
          have HZ := hstill.2
          have HTB : Hid (Two w wB (some ⟨g, 0, none⟩) sops q r E L Gp Hp) := hTB
          have HE : Hid (E.cut = true ∧ E.left = 0 ∧ L.f = E.f ∧ L.n = E.n ∧ Fine E (lim k)) := ⟨hEc, hEl, hLf, hLn, hFine⟩
          have Hbig : Hid _ := hbig
          clear hst1 hst2 hTB hEc hEl hLf hLn hFine hfc hPP hstill hbig HFit HL
          go_wp2_with fail
          rw [← hwB]
          clear hwB
          refine hwr.mono ?_
          rintro e w' ⟨rfl, rfl⟩
          clear hwr
          go_wp2_with fail
          refine hcp.mono ?_
          rintro e w6 ⟨pr, rfl, hc6, B6⟩
          have hT6 := HTB.out.grown B6
          have hX6 : ∀ k, grow (fun _ => False) w' w6 k → w'.heap.size ≤ k := fun k hk => hk.elim False.elim (fun h => h.1)
          have hBs := HTB.out.below.size
          have hs1 := HS1.out w6 pr _ hT6.below hc6 (fun k hk => by have := hX6 k hk; omega)
          have d0 : w6.cell? ⟨wr.heap.size, 0, none⟩ = some (.int .i64 kind) := by rw [B6.cell hbz]; exact b0
          have d1 : w6.cell? ⟨wr.heap.size, 1, none⟩ = some (.string name) := by rw [B6.cell hbz]; exact b1
          have d2 : w6.cell? ⟨wr.heap.size, 2, none⟩ = some (.string to) := by rw [B6.cell hbz]; exact b2
          have d3 : w6.cell? ⟨wr.heap.size, 3, none⟩ = some (.int .i64 nn) := by rw [B6.cell hbz]; exact b3
          have d4 : w6.cell? ⟨wr.heap.size, 4, none⟩ = some (.slice ad len cap) := by rw [B6.cell hbz]; exact b4
          generalize grow (fun _ => False) w' w6 = X6 at *
          have HT6 : Hid (Two w w6 (some ⟨g, 0, none⟩) sops q r E L Gp Hp) := hT6
          have HO : Hid (∀ k, X6 k → w.heap.size ≤ k ∧ ¬ Gp k ∧ ¬ Hp k ∧ ∀ x : Addr, some (⟨g, 0, none⟩ : Addr) = some x → k ≠ x.block) := by
            intro k hk
            have h1 := hX6 k hk
            refine ⟨by omega, fun h => by have := HTB.out.hd.lt k h; omega, fun h => by have := HTB.out.he.lt k h; omega, fun x hx e => ?_⟩
            have := (HTB.out.as1 x hx).2.2
            omega
          have nbX : ¬ X6 wr.heap.size := fun h => by have := hX6 _ h; omega
          clear hT6 hcp HS1 b0 b1 b2 b3 b4 HTB
          go_wp2_with fail
          refine hs1.mono ?_
          rintro e w7 ⟨rfl, hc7, hT7⟩
          have hTw7 := HT6.out.turn hT7 HO.out
          have e0 := hT7.cell d0 nbX
          have e1 := hT7.cell d1 nbX
          have e2 := hT7.cell d2 nbX
          have e3 := hT7.cell d3 nbX
          have e4 := hT7.cell d4 nbX
          have hs2 := HS2.out w7 hTw7
          have hG7 : ∀ k, grow X6 w6 w7 k → ¬ Gp k := fun k hk hg => hk.elim (fun h => (HO.out k h).2.1 hg) (fun h => by have := HT6.out.hd.lt k hg; omega)
          generalize grow X6 w6 w7 = X7 at *
          have HT7 : Hid (Two w w7 (some ⟨g, 0, none⟩) sops q r E L Gp Hp) := hTw7
          clear hs1 hTw7 d0 d1 d2 d3 d4 HS2
          go_wp2_with fail
          refine hs2.mono ?_
          rintro e w8 ⟨rfl, hd8, hT8⟩
          have hTw8 := HT7.out.stepD hd8 hT8
          have hc8 := hc7.turn hT8 hG7
          have hG8 := hTw8
          generalize grow Gp w7 w8 = G8 at *
          have hal := alike_any q r E L G8 Hp w8 hTw8.hd hTw8.he HE.out.2.2.1.symm Hbig.out (by have := HE.out.2.2.2.2.n; omega) (by have := HE.out.2.2.2.2.n; have := HE.out.2.2.2.1; omega)
          have HEnd : Hid (∀ w9, Below w8.heap.size w8 w9 → Two w w9 (some ⟨g, 0, none⟩) sops q r E L G8 Hp) := fun w9 B9 => hTw8.grown B9
          have HC8 : Hid (IsDisk w8 pr PP.1 X7) := hc8
          clear hs2 hTw8 hc8 e0 e1 e2 e3 e4 hc7 hd8 hT8 hG8
          go_wp2_with fail
          refine hal.mono ?_
          rintro e w9 ⟨rfl, B9⟩
          have hT9 := HEnd.out w9 B9
          have hw9 := writes_any q E G8 w9 hT9.hd
          have hp9 := writes_any pr PP.1 X7 w9 (HC8.out.below B9)
          have HT9 : Hid (Two w w9 (some ⟨g, 0, none⟩) sops q r E L G8 Hp) := hT9
          clear HEnd hal hT9 B9 HC8
          go_wp2_with fail
          refine hw9.mono ?_
          rintro e w10 ⟨rfl, rfl⟩
          go_wp2_with fail
          refine hp9.mono ?_
          rintro e w11 ⟨rfl, rfl⟩
          rcases HZ with ⟨hpos, hy⟩ | ⟨hzero, hy⟩
          · have j1 : (0 : Int) < (PP.1.wr : Int) := by omega
            have j2 : ¬ (PP.1.wr : Int) = 0 := by omega
            go_wp2_with fail
            refine hp9.mono ?_
            rintro e w12 ⟨rfl, rfl⟩
            go_wp2
            refine ⟨⟨k + 1, by omega, by simp, .inr ⟨r, by simp, by simp, ⟨_, _, _, _, HT9.out, HE.out.1, HE.out.2.1, hEw, HE.out.2.2.1, HE.out.2.2.2.1, HE.out.2.2.2.2.more (Nat.le_trans (Nat.le_add_right _ _) (lim_succ k))⟩⟩⟩, by simp [intOf]; omega⟩
          · go_wp2_with fail
            refine hp9.mono ?_
            rintro e w12 ⟨rfl, rfl⟩
            go_wp2
            refine ⟨⟨k + 1, by omega, by simp, .inr ⟨r, by simp, by simp, ⟨_, _, _, _, HT9.out, HE.out.1, HE.out.2.1, hEw, HE.out.2.2.1, HE.out.2.2.2.1, HE.out.2.2.2.2.more (Nat.le_trans (Nat.le_add_right _ _) (lim_succ k))⟩⟩⟩, by simp [intOf]; omega⟩
      · have i3 : ¬ (k : Int) < (m : Int) := by omega
        have hE : ∃ E Gp, IsDisk wr q E Gp ∧ E.cut = true ∧ E.left + E.wr = N ∧ (∀ k, Gp k → w.heap.size ≤ k) ∧ Below w.heap.size w wr ∧ Fine E (lim k) := by
          rcases hph with ⟨_, _, HT⟩ | ⟨r, _, _, HT⟩
          · obtain ⟨D, E, Fp, Gp, hTwo, hRel, hFine⟩ := HT.out
            exact ⟨E, Gp, hTwo.he, hRel.ec, hRel.left, hTwo.gp, hTwo.below, ⟨fun x => by rw [← hRel.bs x]; exact hFine.bs x, by rw [← hRel.n]; exact hFine.n, by rw [← hRel.wr]; exact hFine.wr⟩⟩
          · obtain ⟨E, L, Gp, Hp, hTwo, hEc, hEl, hEw, _, _, hFine⟩ := HT.out
            exact ⟨E, Gp, hTwo.hd, hEc, by omega, fun k hk => (hTwo.fp k hk).1, hTwo.below, hFine⟩
        clear hph HF
        obtain ⟨E, Gp, hE, hEc, hsum, hGp, hBw, hFine⟩ := hE
        have hcg := cutting_any q E Gp wr hE
        rw [hEc] at hcg
        have hkb : lim k ≤ 1000000000 := by unfold lim; omega
        have HE : Hid (IsDisk wr q E Gp) := hE
        have HG : Hid (∀ k, Gp k → w.heap.size ≤ k) := hGp
        have HFi : Hid (Fine E (lim k)) := hFine
        have hsub : (N : Int) - (E.wr : Int) = (E.left : Int) := by omega
        clear hE hGp hFine hsum
        go_wp2_with fail
        refine hcg.mono ?_
        rintro e x1 ⟨rfl, Bx1⟩
        have hE1 := HE.out.below Bx1
        have hw1 := writes_any q E Gp x1 hE1
        have hmd := mend_any q E Gp x1 hE1
        have HB1 : Hid (Below w.heap.size w x1) := below_more hBw Bx1
        clear hcg hE1 Bx1 hBw HE
        go_wp2_with fail
        refine hw1.mono ?_
        rintro e x2 ⟨rfl, rfl⟩
        go_wp2_with fail
        refine hmd.mono ?_
        rintro e x3 ⟨rfl, hE3, hT3⟩
        have B3 : Below w.heap.size w x3 := HB1.out.trans (hT3.below HB1.out.size HG.out)
        have hby : Bytes (x3.alloc (.cells #[.int .u8 1] 5)) (some ⟨x3.heap.size, 0, none⟩) 1 [1] := by
          refine ⟨rfl, fun _ => ⟨x3.heap.size, 0, rfl, fun i hi => ?_⟩⟩
          obtain rfl : i = 0 := by omega
          simp [bt]
        have hBa : Below x3.heap.size x3 (x3.alloc (.cells #[.int .u8 1] 5)) := below_box (Below.refl _ _)
        have hlt3 := hE3.lt
        have happ := append_any q _ Gp _ aName _ 1 1 [1] (hE3.below hBa) (by decide) hby (by omega) (by simp) (fun _ x hx => by
          cases hx
          exact ⟨fun h => by have := hlt3 _ h; simp at this, by simp⟩) (HFi.out.bs _) HFi.out.n (by have := HFi.out.wr; show E.wr < _; omega) (by omega)
        have hn6 := not_cut { E with cut := false, left := 0 } aName.data.toList [1] rfl
        generalize DG.app { E with cut := false, left := 0 } aName.data.toList [1] = AA at *
        have HB3 : Hid (Below w.heap.size w (x3.alloc (.cells #[.int .u8 1] 5))) := below_more B3 hBa
        clear hw1 hmd hE3 hT3 B3 hby hBa hlt3 HB1 HFi
        go_wp2_with fail
        refine happ.mono ?_
        rintro e x4 ⟨rfl, _, hT4⟩
        have B4 : Below w.heap.size w x4 := HB3.out.trans (hT4.below HB3.out.size HG.out)
        clear happ hT4 HB3
        go_wp2_with fail
        refine (wakes_any _).mono ?_
        rintro e x5 ⟨rfl, B5⟩
        go_wp2
        go_ret
        exact ⟨rfl, below_more B4 B5⟩
  · obtain ⟨N, hN64, hN⟩ := norm_pos n
    -- the two disks
    go_wp2_with fail
    refine (new_any w1).mono ?_
    rintro e w2 ⟨rfl, hd2, B2⟩
    have hs2 := B2.size
    have hd2lt := hd2.lt
    go_wp2_with fail
    refine (new_any w2).mono ?_
    rintro e w3 ⟨rfl, he3, B3⟩
    have hd3 := hd2.below B3
    have hct := cut_any _ _ _ _ N he3 (by omega)
    go_wp2_with fail
    refine hct.mono ?_
    rintro e w4 ⟨rfl, he4, hT4⟩
    have hd4 := hd3.turn hT4 (by rintro k hk (rfl | rfl) <;> (have := hd2lt _ hk; omega))
    have B3w : Below w.heap.size w w3 := below_more (below_more B1 B2) B3
    have B4w : Below w.heap.size w w4 := B3w.trans (hT4.below B3w.size (by have h1 := B1.size; rintro k (rfl | rfl) <;> omega))
    have hops4 : Ops w4 a n0 ops := ⟨hops.len, fun k o ho => by
      obtain ⟨b, off, e, hc⟩ := hops.cells k o ho
      exact ⟨b, off, e, fun j v hv => by have := hc j v hv; rw [B4w.cell (World.block_lt_of_cell? w _ this)]; exact this⟩, fun o ho => by
      obtain ⟨h1, h2, h3, h4, h5, l, h6⟩ := hfits o ho
      exact ⟨h1, h2, h3, h4, l, h6.below B4w⟩⟩
    clear hct hd2 he3 hd3 B2 B3
    go_wp2_with fail
    refine (script_any a n0 c0 ops w4 hops4 hn0).mono ?_
    rintro e w5 ⟨sa, c5, m, rfl, Hm, ho5, B5⟩
    have hfS := fits_short hfits
    have hm60 : m ≤ 60 := by rw [Hm.out]; simp; omega
    generalize (ops.map GOp.short).take 60 = sops at *
    have hseen5 : Seen w5 sa sops := by
      intro k o ho
      have hk := (List.getElem?_eq_some_iff.1 ho).1
      obtain ⟨g, cap, e, hg⟩ : ∃ g cap, Value.slice sa m c5 = .slice (some ⟨g, 0, none⟩) m cap ∧ g < w5.heap.size := by
        rcases ho5.2 with ⟨_, h0⟩ | ⟨g, cap, cur, e, _⟩
        · have := Hm.out; omega
        · exact ⟨g, cap, e, (ho5.lt g (by rw [e]; rfl)).2⟩
      cases e
      refine ⟨g, rfl, hg, fun j v hv => ?_⟩
      have := ho5.cells (g := g) rfl (k * 5 + j) v (flat_get sops k j o v ho hv)
      rw [Addr.add_lit, Nat.zero_add] at this
      exact this
    have hsa5 : ∀ x, sa = some x → w4.heap.size ≤ x.block ∧ x.block < w5.heap.size := by
      intro x hx
      have := ho5.lt x.block (by rw [hx]; rfl)
      exact this
    have B5w := below_more B4w B5
    have hlt4d := hd4.lt
    have hlt4e := he4.lt
    have h0D : Two w w5 sa sops (w1.heap.size + 1) (w2.heap.size + 1) S0 { S0 with cut := true, left := N } (fun k => k = w1.heap.size ∨ k = w1.heap.size + 1) (fun k => k = w2.heap.size ∨ k = w2.heap.size + 1) :=
      ⟨hseen5, B5w, hd4.below B5, he4.below B5, (by have h1 := B1.size; rintro k (rfl | rfl) <;> exact ⟨by omega, by have := hd2lt w1.heap.size (.inl rfl); have := hd2lt (w1.heap.size + 1) (.inr rfl); omega⟩), (by have h1 := B1.size; rintro k (rfl | rfl) <;> omega),
        fun x hx => ⟨fun h => by have := hlt4d _ h; have := hsa5 x hx; omega, fun h => by have := hlt4e _ h; have := hsa5 x hx; omega, (hsa5 x hx).2⟩⟩
    have hrel0 : Rel N S0 { S0 with cut := true, left := N } := ⟨rfl, rfl, rfl, rfl, rfl, by show N + 0 = N; omega⟩
    have hfine0 : Fine S0 0 := ⟨fun _ => by simp [DG.bs], by simp, by simp⟩
    have HT0 : Hid (∃ D E Fp Gp, Two w w5 sa sops (w1.heap.size + 1) (w2.heap.size + 1) D E Fp Gp ∧ Rel N D E ∧ Fine D (lim 0)) := ⟨_, _, _, _, h0D, hrel0, hfine0.more (Nat.zero_le _)⟩
    generalize w1.heap.size + 1 = p at *
    generalize w2.heap.size + 1 = q at *
    have HF : Hid (Fits w sops) := hfS
    clear hfS hrel0 hfine0 h0D hseen5 hsa5 hlt4d hlt4e B5w B5 ho5 hops4 B4w B3w hd4 hT4 he4 hd2lt hs2 hops hfits h0 h1 B1
    go_wp2_with fail
    go_loopw [7, 8, 45] (fun v7 v8 i wr => ∃ k : Nat, k ≤ m ∧ i = .int .i64 k ∧
        ((v7 = .bool false ∧ v8 = .pointer none ∧ Hid (∃ D E Fp Gp, Two w wr sa sops p q D E Fp Gp ∧ Rel N D E ∧ Fine D (lim k))) ∨
         (∃ r, v7 = .bool true ∧ v8 = .pointer (some ⟨r, 0, none⟩) ∧ Hid (∃ E L Gp Hp, Two w wr sa sops q r E L Gp Hp ∧ E.cut = true ∧ E.left = 0 ∧ E.wr = N ∧ L.f = E.f ∧ L.n = E.n ∧ Fine E (lim k)))))
      (fun _ _ i _ => m - (intOf i).toNat)
    case atStart => exact ⟨0, Nat.zero_le _, rfl, .inl ⟨rfl, rfl, HT0⟩⟩
    case round =>
      clear HT0
      obtain ⟨k, hk, rfl, hph⟩ := hrel
      by_cases hlt : k < m
      · have i3 : (k : Int) < (m : Int) := by omega
        have i4 : (0 : Int) ≤ (k : Int) := by omega
        obtain ⟨o, ho⟩ : ∃ o, sops[k]? = some o := ⟨sops[k]'(by have := Hm.out; omega), by have := Hm.out; simp [← this, hlt]⟩
        have hfit := HF.out o (List.mem_of_getElem? ho)
        obtain ⟨l, hl⟩ := hfit.2.2.2.2.2
        obtain ⟨kind, name, to, nn, ad, len, cap⟩ := o
        have HFit : Hid _ := hfit
        have HL : Hid (Bytes w ad len l) := hl
        clear hfit hl
        rcases hph with ⟨rfl, rfl, HT⟩ | ⟨r, rfl, rfl, HT⟩
        · obtain ⟨D, E, Fp, Gp, hTwo, hRel, hFine⟩ := HT.out
          obtain ⟨g, rfl, hg, hc⟩ := hTwo.seen k _ ho
          have q0 : wr.cell? ⟨g, k * 5, none⟩ = some (.int .i64 kind) := by have := hc 0 _ rfl; rw [Nat.add_zero] at this; exact this
          have q1 : wr.cell? ⟨g, k * 5 + 1, none⟩ = some (.string name) := hc 1 _ rfl
          have q2 : wr.cell? ⟨g, k * 5 + 2, none⟩ = some (.string to) := hc 2 _ rfl
          have q3 : wr.cell? ⟨g, k * 5 + 3, none⟩ = some (.int .i64 nn) := hc 3 _ rfl
          have q4 : wr.cell? ⟨g, k * 5 + 4, none⟩ = some (.slice ad len cap) := hc 4 _ rfl
          have hTB := hTwo.grown (below_box (o := .cells #[.int .i64 kind, .string name, .string to, .int .i64 nn, .slice ad len cap] 47) (Below.refl wr.heap.size wr))
          have nbF : ¬ Fp wr.heap.size := fun h => by have := hTwo.hd.lt _ h; omega
          have nbG : ¬ Gp wr.heap.size := fun h => by have := hTwo.he.lt _ h; omega
          clear hc HT hTwo
          obtain ⟨wB, hwB⟩ : ∃ wB, wB = wr.alloc (.cells #[.int .i64 kind, .string name, .string to, .int .i64 nn, .slice ad len cap] 47) := ⟨_, rfl⟩
          rw [← hwB] at hTB
          have b0 : wB.cell? ⟨wr.heap.size, 0, none⟩ = some (.int .i64 kind) := by rw [hwB]; simp
          have b1 : wB.cell? ⟨wr.heap.size, 1, none⟩ = some (.string name) := by rw [hwB]; simp
          have b2 : wB.cell? ⟨wr.heap.size, 2, none⟩ = some (.string to) := by rw [hwB]; simp
          have b3 : wB.cell? ⟨wr.heap.size, 3, none⟩ = some (.int .i64 nn) := by rw [hwB]; simp
          have b4 : wB.cell? ⟨wr.heap.size, 4, none⟩ = some (.slice ad len cap) := by rw [hwB]; simp
          have hFE : Fine E (lim k) := ⟨fun x => by rw [← hRel.bs x]; exact hFine.bs x, by rw [← hRel.n]; exact hFine.n, by rw [← hRel.wr]; exact hFine.wr⟩
          have hkb : lim k ≤ 1000000000 := by unfold lim; omega
          have hTD := hTB.grown (w' := wB.drew) ⟨rfl, rfl, rfl, Nat.le_refl _, fun _ _ => rfl⟩
          have hst1 := step_in w wB.drew p D Fp _ _ l HFit.out HL.out hTD.below hTD.hd (fun k hk => (hTD.fp k hk).1) hFine hkb
          have hMet := hRel.step ⟨kind, name, to, nn, ad, len, cap⟩ l
          have hF2 := hFine.step ⟨kind, name, to, nn, ad, len, cap⟩ l
          have hF3 := hFE.step ⟨kind, name, to, nn, ad, len, cap⟩ l
          have hst2 := fun (w6 : World) (hd6 : IsDisk w6 p (D.step ⟨kind, name, to, nn, ad, len, cap⟩ l).1 (grow Fp wB.drew w6)) (hT6 : Turn Fp wB.drew w6) => step_in w w6 q E Gp _ _ l HFit.out HL.out (hTD.stepD hd6 hT6).below (hTD.stepD hd6 hT6).he (hTD.gp) hFE hkb
          have hTwoEnd := fun (w6 w7 : World) (hd6 : IsDisk w6 p (D.step ⟨kind, name, to, nn, ad, len, cap⟩ l).1 (grow Fp wB.drew w6)) (hT6 : Turn Fp wB.drew w6) (he7 : IsDisk w7 q (E.step ⟨kind, name, to, nn, ad, len, cap⟩ l).1 (grow Gp w6 w7)) (hT7 : Turn Gp w6 w7) => (hTD.stepD hd6 hT6).stepE he7 hT7
          have hwr := writes_any q E Gp wB hTB.he
          generalize D.step ⟨kind, name, to, nn, ad, len, cap⟩ l = DD at *
          generalize E.step ⟨kind, name, to, nn, ad, len, cap⟩ l = EE at *
          have HS2 : Hid _ := hst2
          have HTE : Hid _ := hTwoEnd
          have HM : Hid (Met N DD EE) := hMet
          have HF2 : Hid (Fine DD.1 (lim (k + 1))) := hF2.more (lim_succ k)
          have HF3 : Hid (Fine EE.1 (lim (k + 1))) := hF3.more (lim_succ k)
          have tok1 : True := trivial
          clear hst2 hTwoEnd hMet hF2 hF3 hRel hFine hFE hTD hTB
          go_wp2_with fail
          rw [← hwB]
          clear hwB
          refine hwr.mono ?_
          rintro e w' ⟨rfl, rfl⟩
          clear hwr
          go_wp2_with fail
          go_region_held3 (fun W => W.cell? ⟨wr.heap.size, 0, none⟩ = some (.int .i64 kind) ∧ W.cell? ⟨wr.heap.size, 1, none⟩ = some (.string name) ∧ W.cell? ⟨wr.heap.size, 2, none⟩ = some (.string to) ∧ W.cell? ⟨wr.heap.size, 3, none⟩ = some (.int .i64 nn) ∧ W.cell? ⟨wr.heap.size, 4, none⟩ = some (.slice ad len cap))
            (first
              | (go_split_ands
                 refine ⟨by go_keep, by go_keep, by go_keep, by go_keep, by go_keep⟩)
              | (go_split_ands
                 exact ⟨hT7.cell (hT6.cell b0 nbF) nbG, hT7.cell (hT6.cell b1 nbF) nbG, hT7.cell (hT6.cell b2 nbF) nbG, hT7.cell (hT6.cell b3 nbF) nbG, hT7.cell (hT6.cell b4 nbF) nbG⟩)
              | (go_split_ands
                 exact ⟨hT6.cell b0 nbF, hT6.cell b1 nbF, hT6.cell b2 nbF, hT6.cell b3 nbF, hT6.cell b4 nbF⟩))
            (first
              | (go_at_call 21; have _t := tok1; refine hst1.mono ?_; rintro e w6 ⟨rfl, hd6, hT6⟩; have hst3 := HS2.out w6 hd6 hT6; clear tok1)
              | (go_at_call 21; refine hst3.mono ?_; rintro e w7 ⟨rfl, he7, hT7⟩))
          have hTE := HTE.out w6 w7 hd6 hT6 he7 hT7
          clear HTE HS2 hst1 hst3 b0 b1 b2 b3 b4 q0 q1 q2 q3 q4 nbF nbG hd6 he7 hT6 hT7 HFit HL
          generalize grow Fp w'.drew w6 = F7 at *
          generalize grow Gp w6 w7 = G7 at *
          have hwd := writes_any p DD.1 F7 w7 hTE.hd
          rcases HM.out with ⟨hle, hxy, hR⟩ | ⟨hgt, hx0, hy6, hEw, hEl, hEc⟩
          · have i5 : (DD.1.wr : Int) ≤ (N : Int) := by omega
            have hwre := hR.wr
            have hal := alike_any p q DD.1 EE.1 F7 G7 w7 hTE.hd hTE.he hR.f (fun x bs hx => by have := HF2.out.bs x; simp [DG.bs, hx] at this; omega) (by have := HF2.out.n; omega) (by have := HF3.out.n; omega)
            have HEnd : Hid (∀ w8, Below w7.heap.size w7 w8 → Two w w8 (some ⟨g, 0, none⟩) sops p q DD.1 EE.1 F7 G7) := fun w8 B8 => hTE.grown B8
            have HR : Hid (Rel N DD.1 EE.1) := hR
            clear hTE hR HM hle
            go_wp2_with fail
            refine hwd.mono ?_
            rintro e w8 ⟨rfl, rfl⟩
            go_wp2_with fail
            refine hal.mono ?_
            rintro e w9 ⟨rfl, B9⟩
            have hT9 := HEnd.out w9 B9
            have hw1 := writes_any p DD.1 F7 w9 hT9.hd
            have hw2 := writes_any q EE.1 G7 w9 hT9.he
            have HT9 : Hid _ := hT9
            clear HEnd hal hwd hT9 B9
            go_wp2_with fail
            refine hw1.mono ?_
            rintro e w10 ⟨rfl, rfl⟩
            go_wp2_with fail
            refine hw2.mono ?_
            rintro e w11 ⟨rfl, rfl⟩
            go_wp2
            refine ⟨⟨k + 1, by omega, by simp, .inl ⟨by simp, by simp, ⟨_, _, _, _, HT9.out, HR.out, HF2.out⟩⟩⟩, by simp [intOf]; omega⟩
          · have i5 : ¬ (DD.1.wr : Int) ≤ (N : Int) := by omega
            have hwe := writes_any q EE.1 G7 w7 hTE.he
            have hcp := copy_any q EE.1 G7 w7 hTE.he (fun x bs hx => by have := HF3.out.bs x; simp [DG.bs, hx] at this; omega) (by have := HF3.out.n; omega)
            have HEnd : Hid (∀ r w8, IsDisk w8 r EE.1.copy (grow (fun _ => False) w7 w8) → Below w7.heap.size w7 w8 → Two w w8 (some ⟨g, 0, none⟩) sops q r EE.1 EE.1.copy G7 (grow (fun _ => False) w7 w8)) := fun r w8 hc B8 => hTE.copied hc B8
            have HX : Hid (EE.1.cut = true ∧ EE.1.left = 0 ∧ EE.1.wr = N) := ⟨hEc, hEl, hEw⟩
            clear hTE HM hgt hEl hEc
            go_wp2_with fail
            refine hwd.mono ?_
            rintro e w8 ⟨rfl, rfl⟩
            go_wp2_with fail
            refine hwe.mono ?_
            rintro e w9 ⟨rfl, rfl⟩
            go_wp2_with fail
            refine hcp.mono ?_
            rintro e w10 ⟨r, rfl, hc10, B10⟩
            have HT9 : Hid _ := HEnd.out r w10 hc10 B10
            clear HEnd hcp hwd hwe hc10 B10
            go_wp2
            refine ⟨⟨k + 1, by omega, by simp, .inr ⟨r, by simp, by simp, ⟨_, _, _, _, HT9.out, HX.out.1, HX.out.2.1, HX.out.2.2, rfl, rfl, HF3.out⟩⟩⟩, by simp [intOf]; omega⟩
        · obtain ⟨E, L, Gp, Hp, hTwo, hEc, hEl, hEw, hLf, hLn, hFine⟩ := HT.out
          obtain ⟨g, rfl, hg, hc⟩ := hTwo.seen k _ ho
          have q0 : wr.cell? ⟨g, k * 5, none⟩ = some (.int .i64 kind) := by have := hc 0 _ rfl; rw [Nat.add_zero] at this; exact this
          have q1 : wr.cell? ⟨g, k * 5 + 1, none⟩ = some (.string name) := hc 1 _ rfl
          have q2 : wr.cell? ⟨g, k * 5 + 2, none⟩ = some (.string to) := hc 2 _ rfl
          have q3 : wr.cell? ⟨g, k * 5 + 3, none⟩ = some (.int .i64 nn) := hc 3 _ rfl
          have q4 : wr.cell? ⟨g, k * 5 + 4, none⟩ = some (.slice ad len cap) := hc 4 _ rfl
          have hTB := hTwo.grown (below_box (o := .cells #[.int .i64 kind, .string name, .string to, .int .i64 nn, .slice ad len cap] 47) (Below.refl wr.heap.size wr))
          have nbG : ¬ Gp wr.heap.size := fun h => by have := hTwo.hd.lt _ h; omega
          clear hc HT hTwo
          obtain ⟨wB, hwB⟩ : ∃ wB, wB = wr.alloc (.cells #[.int .i64 kind, .string name, .string to, .int .i64 nn, .slice ad len cap] 47) := ⟨_, rfl⟩
          rw [← hwB] at hTB
          have hbz : wr.heap.size < wB.heap.size := by rw [hwB]; simp
          have b0 : wB.cell? ⟨wr.heap.size, 0, none⟩ = some (.int .i64 kind) := by rw [hwB]; simp
          have b1 : wB.cell? ⟨wr.heap.size, 1, none⟩ = some (.string name) := by rw [hwB]; simp
          have b2 : wB.cell? ⟨wr.heap.size, 2, none⟩ = some (.string to) := by rw [hwB]; simp
          have b3 : wB.cell? ⟨wr.heap.size, 3, none⟩ = some (.int .i64 nn) := by rw [hwB]; simp
          have b4 : wB.cell? ⟨wr.heap.size, 4, none⟩ = some (.slice ad len cap) := by rw [hwB]; simp
          have hkb : lim k ≤ 1000000000 := by unfold lim; omega
          have hbig : ∀ x bs, E.f x = some bs → bs.length ≤ 140737488355328 := fun x bs hx => by have := hFine.bs x; simp [DG.bs, hx] at this; omega
          have hwr := writes_any q E Gp wB hTB.hd
          have hcp := copy_any q E Gp wB hTB.hd hbig (by have := hFine.n; omega)
          have hstill := still E hEc hEl ⟨kind, name, to, nn, ad, len, cap⟩ l
          have hfc : Fine E.copy 0 := ⟨hFine.bs, hFine.n, Nat.le_refl _⟩
          have hst2 := fun (w6 : World) (hT6 : Two w w6 (some ⟨g, 0, none⟩) sops q r E L Gp Hp) => step_in w w6 q E Gp _ _ l HFit.out HL.out hT6.below hT6.hd (fun k hk => (hT6.fp k hk).1) hFine hkb
          rw [hstill.1] at hst2
          have hst1 := fun (w6 : World) (pr : Nat) (Xp : Nat → Prop) (hB6 : Below w.heap.size w w6) (hc6 : IsDisk w6 pr E.copy Xp) (hX : ∀ k, Xp k → w.heap.size ≤ k) => step_in w w6 pr E.copy Xp _ _ l HFit.out HL.out hB6 hc6 hX hfc (by omega)
          generalize hPP : E.copy.step ⟨kind, name, to, nn, ad, len, cap⟩ l = PP at *
          generalize (E.step ⟨kind, name, to, nn, ad, len, cap⟩ l).2 = y at *
          have HS1 : Hid _ := hst1
          have HS2 : Hid _ := hst2
          have HZ := hstill.2
          have HTB : Hid (Two w wB (some ⟨g, 0, none⟩) sops q r E L Gp Hp) := hTB
          have HE : Hid (E.cut = true ∧ E.left = 0 ∧ L.f = E.f ∧ L.n = E.n ∧ Fine E (lim k)) := ⟨hEc, hEl, hLf, hLn, hFine⟩
          have Hbig : Hid _ := hbig
          clear hst1 hst2 hTB hEc hEl hLf hLn hFine hfc hPP hstill hbig HFit HL
          go_wp2_with fail
          rw [← hwB]
          clear hwB
          refine hwr.mono ?_
          rintro e w' ⟨rfl, rfl⟩
          clear hwr
          go_wp2_with fail
          refine hcp.mono ?_
          rintro e w6 ⟨pr, rfl, hc6, B6⟩
          have hT6 := HTB.out.grown B6
          have hX6 : ∀ k, grow (fun _ => False) w' w6 k → w'.heap.size ≤ k := fun k hk => hk.elim False.elim (fun h => h.1)
          have hBs := HTB.out.below.size
          have hs1 := HS1.out w6 pr _ hT6.below hc6 (fun k hk => by have := hX6 k hk; omega)
          have d0 : w6.cell? ⟨wr.heap.size, 0, none⟩ = some (.int .i64 kind) := by rw [B6.cell hbz]; exact b0
          have d1 : w6.cell? ⟨wr.heap.size, 1, none⟩ = some (.string name) := by rw [B6.cell hbz]; exact b1
          have d2 : w6.cell? ⟨wr.heap.size, 2, none⟩ = some (.string to) := by rw [B6.cell hbz]; exact b2
          have d3 : w6.cell? ⟨wr.heap.size, 3, none⟩ = some (.int .i64 nn) := by rw [B6.cell hbz]; exact b3
          have d4 : w6.cell? ⟨wr.heap.size, 4, none⟩ = some (.slice ad len cap) := by rw [B6.cell hbz]; exact b4
          generalize grow (fun _ => False) w' w6 = X6 at *
          have HT6 : Hid (Two w w6 (some ⟨g, 0, none⟩) sops q r E L Gp Hp) := hT6
          have HO : Hid (∀ k, X6 k → w.heap.size ≤ k ∧ ¬ Gp k ∧ ¬ Hp k ∧ ∀ x : Addr, some (⟨g, 0, none⟩ : Addr) = some x → k ≠ x.block) := by
            intro k hk
            have h1 := hX6 k hk
            refine ⟨by omega, fun h => by have := HTB.out.hd.lt k h; omega, fun h => by have := HTB.out.he.lt k h; omega, fun x hx e => ?_⟩
            have := (HTB.out.as1 x hx).2.2
            omega
          have nbX : ¬ X6 wr.heap.size := fun h => by have := hX6 _ h; omega
          clear hT6 hcp HS1 b0 b1 b2 b3 b4 HTB
          go_wp2_with fail
          refine hs1.mono ?_
          rintro e w7 ⟨rfl, hc7, hT7⟩
          have hTw7 := HT6.out.turn hT7 HO.out
          have e0 := hT7.cell d0 nbX
          have e1 := hT7.cell d1 nbX
          have e2 := hT7.cell d2 nbX
          have e3 := hT7.cell d3 nbX
          have e4 := hT7.cell d4 nbX
          have hs2 := HS2.out w7 hTw7
          have hG7 : ∀ k, grow X6 w6 w7 k → ¬ Gp k := fun k hk hg => hk.elim (fun h => (HO.out k h).2.1 hg) (fun h => by have := HT6.out.hd.lt k hg; omega)
          generalize grow X6 w6 w7 = X7 at *
          have HT7 : Hid (Two w w7 (some ⟨g, 0, none⟩) sops q r E L Gp Hp) := hTw7
          clear hs1 hTw7 d0 d1 d2 d3 d4 HS2
          go_wp2_with fail
          refine hs2.mono ?_
          rintro e w8 ⟨rfl, hd8, hT8⟩
          have hTw8 := HT7.out.stepD hd8 hT8
          have hc8 := hc7.turn hT8 hG7
          have hG8 := hTw8
          generalize grow Gp w7 w8 = G8 at *
          have hal := alike_any q r E L G8 Hp w8 hTw8.hd hTw8.he HE.out.2.2.1.symm Hbig.out (by have := HE.out.2.2.2.2.n; omega) (by have := HE.out.2.2.2.2.n; have := HE.out.2.2.2.1; omega)
          have HEnd : Hid (∀ w9, Below w8.heap.size w8 w9 → Two w w9 (some ⟨g, 0, none⟩) sops q r E L G8 Hp) := fun w9 B9 => hTw8.grown B9
          have HC8 : Hid (IsDisk w8 pr PP.1 X7) := hc8
          clear hs2 hTw8 hc8 e0 e1 e2 e3 e4 hc7 hd8 hT8 hG8
          go_wp2_with fail
          refine hal.mono ?_
          rintro e w9 ⟨rfl, B9⟩
          have hT9 := HEnd.out w9 B9
          have hw9 := writes_any q E G8 w9 hT9.hd
          have hp9 := writes_any pr PP.1 X7 w9 (HC8.out.below B9)
          have HT9 : Hid (Two w w9 (some ⟨g, 0, none⟩) sops q r E L G8 Hp) := hT9
          clear HEnd hal hT9 B9 HC8
          go_wp2_with fail
          refine hw9.mono ?_
          rintro e w10 ⟨rfl, rfl⟩
          go_wp2_with fail
          refine hp9.mono ?_
          rintro e w11 ⟨rfl, rfl⟩
          rcases HZ with ⟨hpos, hy⟩ | ⟨hzero, hy⟩
          · have j1 : (0 : Int) < (PP.1.wr : Int) := by omega
            have j2 : ¬ (PP.1.wr : Int) = 0 := by omega
            go_wp2_with fail
            refine hp9.mono ?_
            rintro e w12 ⟨rfl, rfl⟩
            go_wp2
            refine ⟨⟨k + 1, by omega, by simp, .inr ⟨r, by simp, by simp, ⟨_, _, _, _, HT9.out, HE.out.1, HE.out.2.1, hEw, HE.out.2.2.1, HE.out.2.2.2.1, HE.out.2.2.2.2.more (Nat.le_trans (Nat.le_add_right _ _) (lim_succ k))⟩⟩⟩, by simp [intOf]; omega⟩
          · go_wp2_with fail
            refine hp9.mono ?_
            rintro e w12 ⟨rfl, rfl⟩
            go_wp2
            refine ⟨⟨k + 1, by omega, by simp, .inr ⟨r, by simp, by simp, ⟨_, _, _, _, HT9.out, HE.out.1, HE.out.2.1, hEw, HE.out.2.2.1, HE.out.2.2.2.1, HE.out.2.2.2.2.more (Nat.le_trans (Nat.le_add_right _ _) (lim_succ k))⟩⟩⟩, by simp [intOf]; omega⟩
      · have i3 : ¬ (k : Int) < (m : Int) := by omega
        have hE : ∃ E Gp, IsDisk wr q E Gp ∧ E.cut = true ∧ E.left + E.wr = N ∧ (∀ k, Gp k → w.heap.size ≤ k) ∧ Below w.heap.size w wr ∧ Fine E (lim k) := by
          rcases hph with ⟨_, _, HT⟩ | ⟨r, _, _, HT⟩
          · obtain ⟨D, E, Fp, Gp, hTwo, hRel, hFine⟩ := HT.out
            exact ⟨E, Gp, hTwo.he, hRel.ec, hRel.left, hTwo.gp, hTwo.below, ⟨fun x => by rw [← hRel.bs x]; exact hFine.bs x, by rw [← hRel.n]; exact hFine.n, by rw [← hRel.wr]; exact hFine.wr⟩⟩
          · obtain ⟨E, L, Gp, Hp, hTwo, hEc, hEl, hEw, _, _, hFine⟩ := HT.out
            exact ⟨E, Gp, hTwo.hd, hEc, by omega, fun k hk => (hTwo.fp k hk).1, hTwo.below, hFine⟩
        clear hph HF
        obtain ⟨E, Gp, hE, hEc, hsum, hGp, hBw, hFine⟩ := hE
        have hcg := cutting_any q E Gp wr hE
        rw [hEc] at hcg
        have hkb : lim k ≤ 1000000000 := by unfold lim; omega
        have HE : Hid (IsDisk wr q E Gp) := hE
        have HG : Hid (∀ k, Gp k → w.heap.size ≤ k) := hGp
        have HFi : Hid (Fine E (lim k)) := hFine
        have hsub : (N : Int) - (E.wr : Int) = (E.left : Int) := by omega
        clear hE hGp hFine hsum
        go_wp2_with fail
        refine hcg.mono ?_
        rintro e x1 ⟨rfl, Bx1⟩
        have hE1 := HE.out.below Bx1
        have hw1 := writes_any q E Gp x1 hE1
        have hmd := mend_any q E Gp x1 hE1
        have HB1 : Hid (Below w.heap.size w x1) := below_more hBw Bx1
        clear hcg hE1 Bx1 hBw HE
        go_wp2_with fail
        refine hw1.mono ?_
        rintro e x2 ⟨rfl, rfl⟩
        go_wp2_with fail
        refine hmd.mono ?_
        rintro e x3 ⟨rfl, hE3, hT3⟩
        have B3 : Below w.heap.size w x3 := HB1.out.trans (hT3.below HB1.out.size HG.out)
        have hby : Bytes (x3.alloc (.cells #[.int .u8 1] 5)) (some ⟨x3.heap.size, 0, none⟩) 1 [1] := by
          refine ⟨rfl, fun _ => ⟨x3.heap.size, 0, rfl, fun i hi => ?_⟩⟩
          obtain rfl : i = 0 := by omega
          simp [bt]
        have hBa : Below x3.heap.size x3 (x3.alloc (.cells #[.int .u8 1] 5)) := below_box (Below.refl _ _)
        have hlt3 := hE3.lt
        have happ := append_any q _ Gp _ aName _ 1 1 [1] (hE3.below hBa) (by decide) hby (by omega) (by simp) (fun _ x hx => by
          cases hx
          exact ⟨fun h => by have := hlt3 _ h; simp at this, by simp⟩) (HFi.out.bs _) HFi.out.n (by have := HFi.out.wr; show E.wr < _; omega) (by omega)
        have hn6 := not_cut { E with cut := false, left := 0 } aName.data.toList [1] rfl
        generalize DG.app { E with cut := false, left := 0 } aName.data.toList [1] = AA at *
        have HB3 : Hid (Below w.heap.size w (x3.alloc (.cells #[.int .u8 1] 5))) := below_more B3 hBa
        clear hw1 hmd hE3 hT3 B3 hby hBa hlt3 HB1 HFi
        go_wp2_with fail
        refine happ.mono ?_
        rintro e x4 ⟨rfl, _, hT4⟩
        have B4 : Below w.heap.size w x4 := HB3.out.trans (hT4.below HB3.out.size HG.out)
        clear happ hT4 HB3
        go_wp2_with fail
        refine (wakes_any _).mono ?_
        rintro e x5 ⟨rfl, B5⟩
        go_wp2
        go_ret
        exact ⟨rfl, below_more B4 B5⟩

set_option maxRecDepth 100000 in
theorem diskCut_lifted (os : Os) (started : os.Started) (H : Type) (enc : TypeId × Value → H) :
    ReturnsInHanded {} Try.checked os 4 .any (Rows.diskCutSpec.pre6 enc Try.prog Try.f4 Rows.diskCutRow.domain false) (Rows.diskCutSpec.post enc Try.prog Try.f4 false true false false) := by
  refine returnsInHanded_of_change (C := Try.checked) own started (by kernel_rfl) Try.func4
    (ChangeSpec.witness6 (enc := enc) (C := Try.checked) false ⟨#[], #[.slice none 0 0, .int .i64 0], []⟩ 8 (by kernel_rfl) (by kernel_rfl) (by kernel_rfl) (by kernel_rfl)) ?_
  intro W base args ds gs before hval0 hW hcnd _
  have hval : ∀ (j : Nat) t v, Try.f4.params[j]? = some t → args[j]? = some v → Value.okWide Try.prog W .any base t v := hval0
  have hW' := hW
  obtain ⟨p, q, hA0, hV, rfl, hfz, hnd⟩ := hW
  have hA : DataW.TrodAll enc Try.prog W 0 (fun _ => true) true Try.f4.params.toList args.toList ds p := hA0
  rw [Try.params4] at hA hval
  obtain ⟨v0, vs0, d0, ds0, p0, q0, hargs, rfl, rfl, h0, r0⟩ := trodAll_cons hA
  obtain ⟨v1, vs1, d1, ds1, p1, q1, rfl, rfl, rfl, h1, r1⟩ := trodAll_cons r0
  obtain ⟨rfl, rfl, rfl⟩ := trodAll_nil r1
  obtain rfl : args = #[v0, v1] := by cases args; simp_all
  obtain ⟨rfl, rfl⟩ := trodVars_none hV
  have k0 := h0
  have lt0 : ∀ x ∈ p0, x.block < W.heap.size := by obtain ⟨m, hm⟩ := k0; exact DataW.trod_lt m _ _ _ hm
  obtain ⟨a0, n0, c0, ops, rfl, hops, hfits, hn0⟩ := ops_arg (hval 0 44 v0 rfl rfl) h0
  obtain ⟨a1, rfl, rfl, rfl, w1⟩ := open_int Try.underlying3 (hval 1 3 v1 rfl rfl) h1
  have hb := bounds_i64 w1
  clear hA0 hval0
  refine (diskCut_walk a0 n0 c0 ops a1 W hops hfits hn0 (by omega) (by omega)).mono fun e W' ⟨he, bel⟩ => ?_
  subst he
  exact ⟨_, rfl, _, _, _, [], _, [], hW', trodAll_mk1 (shut_bool Try.underlying4 _), trodAll_cons_mk (Below.trod laidOut (by kernel_rfl) (of_decide_eq_true (by kernel_rfl)) k0 bel lt0) (trodAll_cons_mk (shut_int Try.underlying3 w1) trodAll_mk0), rfl, bel.frame _, fun h => by cases h⟩

theorem diskCut_holds : Rows.DiskCutSaid :=
  OpenClaim.holds_of_wide 4 Try.f4 rfl rfl rfl rfl rfl rfl rfl ⟨rfl, rfl, rfl, rfl, rfl⟩ rfl rfl rfl rfl rfl (by kernel_rfl) Try.func4 (by kernel_rfl)
    (of_decide_eq_true (by kernel_rfl)) (by unfold Func.isWrapper; first | (rw [if_pos (by decide +kernel)]; kernel_rfl) | (rw [if_neg (by decide +kernel)]; exact ⟨rfl, rfl⟩))
    (fun os started H enc _ => diskCut_lifted os started H enc)
#print axioms diskCut_holds

end Go.Proofs.Ytibnppclnapjkaa
