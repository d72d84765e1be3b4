import Derived.Test.YtdjodigimhgklaaGreatDoorN37
import Derived.Test.YtdjodigimhgklaaGreatDoorN33
/- The memo's Add. -/
namespace Go.Proofs.YtdjodigimhgklaaGreatDoor
open Go.RowKit Go.Shelf Go.Maps

attribute [local go_sem] Oper.semAt_some

theorem newsS_facts {ps acc out : List Pr} {p : Pr} (h : newsS ps acc p = some out) : (out = acc ++ [p] ∧ lookP ps p.1 = none) ∨ out = acc := by
  unfold newsS at h
  split at h
  · rename_i h1
    cases h
    exact .inl ⟨rfl, h1⟩
  · split at h
    · cases h
      exact .inr rfl
    · cases h
theorem newsR_facts (ps : List Pr) : ∀ (L acc out : List Pr), newsR ps acc L = some out → ∃ f, out = acc ++ f ∧ f.Sublist L ∧ ∀ p ∈ f, lookP ps p.1 = none
  | [], acc, out, h => by
    cases h
    exact ⟨[], by simp, List.Sublist.refl _, fun p hp => by cases hp⟩
  | p :: r, acc, out, h => by
    simp only [newsR] at h
    cases hs : newsS ps acc p with
    | none => rw [hs] at h; cases h
    | some z =>
      rw [hs] at h
      obtain ⟨f, rfl, h1, h2⟩ := newsR_facts ps r z out h
      rcases newsS_facts hs with ⟨rfl, hl⟩ | rfl
      · exact ⟨p :: f, by simp, h1.cons_cons p, fun q hq => by
          rcases List.mem_cons.1 hq with rfl | hq
          · exact hl
          · exact h2 q hq⟩
      · exact ⟨f, rfl, h1.cons p, h2⟩
theorem MS.failed {Q : Nat → Prop} {w : World} {m d j : Nat} {g : Me} {rs : List (List UInt8)} {sz : Nat} {jc : Bool} {S : DG} (h : MS Q w m d j g rs sz jc S) (b : Bool) : MS Q (w.setCell ⟨m, 6, none⟩ (.bool b)) m d j { g with failed := b } rs sz jc S ∧ Turn (fun k => k = m) w (w.setCell ⟨m, 6, none⟩ (.bool b)) := by
  obtain ⟨vr, pa, pc, FM, FJ, G, h1, h2, h3, h4, h5, h6⟩ := h
  have hT := turn_setCell w m 6 (.bool b)
  refine ⟨⟨vr, pa, pc, FM, FJ, G, ?_, ?_, ?_, h4, h5, h6⟩, hT⟩
  · exact {
      box := seven_set6 h1.box _
      row := yrow_move h1.row fun k e => hT.block k (h1.lt k (h1.fr k e).1) (h1.fr k e).2
      prs := h1.prs.blocks fun h0 x e => hT.block _ (h1.lt _ (h1.fp h0 x e).1) (h1.fp h0 x e).2
      ris := h1.ris
      ok := h1.ok
      small := h1.small
      fm := h1.fm
      fr := h1.fr
      fp := h1.fp
      lt := fun k hk => Nat.lt_of_lt_of_le (h1.lt k hk) hT.size }
  · exact h2.kept hT.size fun k hk => hT.block k (h2.lt k hk) fun e => by subst e; exact (h4 _ h1.fm).1 hk
  · exact h3.turn hT fun k hk e => by subst e; exact (h4 _ h1.fm).2 hk
/-- what became of a memo by an Add -/
def AddR (g : Me) (l : List Pr) (rs : List (List UInt8)) (sz : Nat) (jc : Bool) (S : DG) (er : Int) (g' : Me) (rs' : List (List UInt8)) (sz' : Nat) (jc' : Bool) (S' : DG) : Prop :=
  ((g' = g ∧ rs' = rs ∧ sz' = sz ∧ jc' = jc ∧ S' = S) ∧ ((g.failed = true ∧ er = 6) ∨ (g.failed = false ∧ (∃ p ∈ l, p.1 = 0) ∧ er = 2) ∨ (g.failed = false ∧ (∀ p ∈ l, p.1 ≠ 0) ∧ ¬ Once l ∧ er = 5) ∨
    (g.failed = false ∧ (∀ p ∈ l, p.1 ≠ 0) ∧ Once l ∧ ∃ d, GoodV d ∧ d.Perm l ∧ ((newsR g.ps [] d = none ∧ er = 5) ∨ (newsR g.ps [] d = some [] ∧ er = 0) ∨ ∃ news, newsR g.ps [] d = some news ∧ news ≠ [] ∧ 65536 < g.ps.length + news.length ∧ er = 3)))) ∨
  (g.failed = false ∧ (∀ p ∈ l, p.1 ≠ 0) ∧ Once l ∧ ∃ d news g1, GoodV d ∧ d.Perm l ∧ newsR g.ps [] d = some news ∧ news ≠ [] ∧ g.ps.length + news.length ≤ 65536 ∧ LayR g news rs sz S er g1 rs' sz' jc' S' ∧ g' = { g1 with failed := decide (er ≠ 0) })
/-- what Add answers -/
def AddA (Q : Nat → Prop) (w : World) (m d j : Nat) (g : Me) (l : List Pr) (rs : List (List UInt8)) (sz : Nat) (jc : Bool) (S : DG) (e : Ending) (w' : World) : Prop :=
  Turn Q w w' ∧ ∃ er g' rs' sz' jc' S', e = .returned (.int .i64 er) ∧ AddR g l rs sz jc S er g' rs' sz' jc' S' ∧ MS (grow Q w w') w' m d j g' rs' sz' jc' S'
theorem add_same {Q : Nat → Prop} {w w' : World} {m d j : Nat} {g : Me} {l : List Pr} {rs : List (List UInt8)} {sz : Nat} {jc : Bool} {S : DG} {er : Int} (h : MS Q w m d j g rs sz jc S) (hB : Below w.heap.size w w') (hR : AddR g l rs sz jc S er g rs sz jc S) : AddA Q w m d j g l rs sz jc S (.returned (.int .i64 er)) w' :=
  ⟨Turn.of_below Q hB, er, g, rs, sz, jc, S, rfl, hR, (h.below hB).wide fun _ hk => .inl hk⟩

set_option maxRecDepth 100000 in
set_option maxHeartbeats 8000000 in
theorem yadd_any (Q : Nat → Prop) (w : World) (m d j : Nat) (g : Me) (rs : List (List UInt8)) (sz : Nat) (jc : Bool) (S : DG) (h : MS Q w m d j g rs sz jc S) (hQ : ∀ k, Q k → k < w.heap.size) (hjc : g.failed = false → jc = false)
    (a : Option Addr) (n c : Nat) (l : List Pr) (hp : PrV w a n c l) (hok : PrOk l) (hps0 : ∀ p ∈ g.ps, p.1 ≠ 0) (hn : n ≤ 65536)
    (hkey : g.key < 18446744073709551616) (htop : g.top + 1 < 100) (hruns : ∀ x ∈ g.runs, x < 100) (hrl : g.runs.length ≤ 4)
    (hbs : (S.bs (nmB g.key (g.top + 1))).length ≤ 4194304) (hSn : S.n ≤ 256) (hSw : S.wr < 4000000000000000000)
    (hlay : ∀ news : List Pr, (∀ p ∈ news, p ∈ l) → news.length ≤ n → ((layS1 g news S).2 = 0 → ((layS1 g news S).1.bs (nmB g.key 0)).length ≤ 4194304 ∧ sz ≤ ((layS1 g news S).1.bs (nmB g.key 0)).length ∧ (layS1 g news S).1.n ≤ 256 ∧ (layS1 g news S).1.wr < 4000000000000000000) ∧
      ((layS2 g news S).2 = 0 → (layS2 g news S).1.wr < 4000000000000000000)) :
    Calls Tryz.prog 13 #[.pointer (some ⟨m, 0, none⟩), .slice a n c] w (AddA Q w m d j g l rs sz jc S) := by
  have HM : Hid (MS Q w m d j g rs sz jc S) := h
  have HC : Hid (∀ Y, Below w.heap.size w Y → Y.cell? ⟨m, 4, none⟩ = some (.int .i64 (g.top : Int)) ∧ (∃ pa pc, Y.cell? ⟨m, 5, none⟩ = some (.slice pa g.ps.length pc)) ∧ Y.cell? ⟨m, 6, none⟩ = some (.bool g.failed)) := fun Y hY => by
    obtain ⟨vr, pa, pc, FM, FJ, G, h1, _⟩ := h.below hY
    obtain ⟨_, _, _, _, q4, q5, q6⟩ := h1.cells
    exact ⟨q4, ⟨pa, pc, q5⟩, q6⟩
  have c6 := (HC.out w (Below.refl _ _)).2.2
  have hpl := hp.prs.1
  have hmk := make_any w a n c l hp.prs hok hp.nil hn
  have Hok : Hid (PrOk l) := hok
  clear h hp hok
  go_enter Tryz.func13, Tryz.ntmps13
  cases hf : g.failed with
  | true =>
    rw [hf] at c6
    have HZ : Hid (AddA Q w m d j g l rs sz jc S (.returned (.int .i64 6)) w) := add_same HM.out (Below.refl _ _) (.inl ⟨⟨rfl, rfl, rfl, rfl, rfl⟩, .inl ⟨hf, rfl⟩⟩)
    clear hmk
    go_wp2
    go_ret
    exact HZ.out
  | false =>
    rw [hf] at c6
    have hj := hjc hf
    subst hj
    go_wp2_with fail
    refine hmk.mono ?_
    clear hmk c6
    rintro e w1 ⟨v1, er1, rfl, hE, hB1⟩
    rcases hE with ⟨h1, rfl, rfl⟩ | ⟨h1, h2, rfl, rfl⟩ | ⟨dl, ad, cp, hg, hpm, h0, ho, rfl, rfl, hown⟩
    · have HZ : Hid (AddA Q w m d j g l rs sz false S (.returned (.int .i64 2)) w1) := add_same HM.out hB1 (.inl ⟨⟨rfl, rfl, rfl, rfl, rfl⟩, .inr (.inl ⟨hf, h1, rfl⟩)⟩)
      clear h1 hB1
      go_wp2
      go_ret
      exact HZ.out
    · have HZ : Hid (AddA Q w m d j g l rs sz false S (.returned (.int .i64 5)) w1) := add_same HM.out hB1 (.inl ⟨⟨rfl, rfl, rfl, rfl, rfl⟩, .inr (.inr (.inl ⟨hf, h1, h2, rfl⟩))⟩)
      clear h1 h2 hB1
      go_wp2
      go_ret
      exact HZ.out
    · obtain ⟨hby, hbn, hbc⟩ := own_slice hown
      have hbl : (runB dl).length ≤ 2000000 := by
        rw [runB_len]
        have := short_len dl.length
        have := hg.len
        omega
      have HD : Hid (GoodV dl ∧ dl.Perm l ∧ (∀ p ∈ l, p.1 ≠ 0) ∧ Once l) := ⟨hg, hpm, h0, ho⟩
      have hne : Calls Tryz.prog 42 #[.pointer (some ⟨m, 0, none⟩), .slice ad (runB dl).length cp] w1 (NewsA w1 g.ps dl) := by
        obtain ⟨vr, pa, pc, FM, FJ, G, h1, _⟩ := HM.out.below hB1
        have := news_anyY w1 m d j g vr pa pc FM h1 ad (runB dl).length cp (runB dl) hby (fun e => (hbn e).1) hbc (by omega)
        rwa [show eachL (runB dl) = dl from by unfold eachL; rw [pairs_runB hg]; rfl] at this
      have hB1' : Hid (Below w.heap.size w w1) := hB1
      clear hby hbn hbc hown hg hpm h0 ho hB1
      generalize (runB dl).length = BL at *
      go_wp2_with fail
      refine hne.mono ?_
      clear hne
      rintro e w2 ⟨hB2, hcase⟩
      have HB : Hid (Below w.heap.size w w2) := hB1'.out.trans (hB2.mono hB1'.out.size)
      clear hB2
      rcases hcase with ⟨hnn, rfl⟩ | ⟨out, oa, oc, hnn, rfl, hown⟩
      · have HZ : Hid (AddA Q w m d j g l rs sz false S (.returned (.int .i64 5)) w2) := add_same HM.out HB.out (.inl ⟨⟨rfl, rfl, rfl, rfl, rfl⟩, .inr (.inr (.inr ⟨hf, HD.out.2.2.1, HD.out.2.2.2, dl, HD.out.1, HD.out.2.1, .inl ⟨hnn, rfl⟩⟩))⟩)
        clear hnn
        go_wp2
        go_ret
        exact HZ.out
      · obtain ⟨q4, ⟨pa, pc, q5⟩, _⟩ := HC.out w2 HB.out
        obtain ⟨oa', oc', e', hpv, hol⟩ := own_prv hown
        cases e'
        obtain ⟨f, ef, hsub, hno⟩ := newsR_facts g.ps dl [] out hnn
        rw [List.nil_append] at ef
        subst ef
        have hdl := HD.out.1.len
        have hol2 : out.length ≤ dl.length := hsub.length_le
        have hdn : dl.length = l.length := HD.out.2.1.length_eq
        have hris := (risF_iff dl 0).1 HD.out.1.ris
        have HO : Hid (PrV w2 oa out.length oc out ∧ Ris out ∧ PrOk out ∧ (∀ p ∈ out, p.1 ≠ 0) ∧ (∀ p ∈ out, lookP g.ps p.1 = none) ∧ (∀ p ∈ out, p ∈ l) ∧ newsR g.ps [] dl = some out) :=
          ⟨hpv, hris.1.sublist hsub, fun p hp => HD.out.1.ok p (hsub.subset hp), fun p hp => by have := hris.2 p (hsub.subset hp); omega, hno, fun p hp => HD.out.2.1.mem_iff.1 (hsub.subset hp), hnn⟩
        clear hnn hown hpv hsub hno hris
        have hsm : g.ps.length ≤ 1000000 := by
          obtain ⟨vr, pa, pc, FM, FJ, G, h1, _⟩ := HM.out
          exact h1.small
        by_cases hz : out.length = 0
        · have i1 : ((out.length : Int) == 0) = true := by simp [hz]
          have HZ : Hid (AddA Q w m d j g l rs sz false S (.returned (.int .i64 0)) w2) := add_same HM.out HB.out (.inl ⟨⟨rfl, rfl, rfl, rfl, rfl⟩, .inr (.inr (.inr ⟨hf, HD.out.2.2.1, HD.out.2.2.2, dl, HD.out.1, HD.out.2.1, .inr (.inl ⟨by rw [HO.out.2.2.2.2.2.2, List.eq_nil_of_length_eq_zero hz], rfl⟩)⟩))⟩)
          go_wp2
          go_ret
          exact HZ.out
        · have i1 : ((out.length : Int) == 0) = false := by simpa using hz
          have hne : out ≠ [] := fun e => hz (by rw [e]; rfl)
          by_cases hbig : 65536 < g.ps.length + out.length
          · have i2 : (65536 : Int) < (g.ps.length : Int) + (out.length : Int) := by omega
            have HZ : Hid (AddA Q w m d j g l rs sz false S (.returned (.int .i64 3)) w2) := add_same HM.out HB.out (.inl ⟨⟨rfl, rfl, rfl, rfl, rfl⟩, .inr (.inr (.inr ⟨hf, HD.out.2.2.1, HD.out.2.2.2, dl, HD.out.1, HD.out.2.1, .inr (.inr ⟨out, HO.out.2.2.2.2.2.2, hne, hbig, rfl⟩)⟩))⟩)
            clear hne
            go_wp2
            go_ret
            exact HZ.out
          · have i2 : ¬ (65536 : Int) < (g.ps.length : Int) + (out.length : Int) := by omega
            have i3 : ((g.top : Int) == 2147483648) = false := by simp; omega
            have s2 := HB.out.size
            obtain ⟨hl1, hl2⟩ := hlay out HO.out.2.2.2.2.2.1 (by omega)
            have hla := lay_any Q w2 m d j g rs sz S (HM.out.below HB.out) (fun k hk => Nat.lt_of_lt_of_le (hQ k hk) s2) oa out.length oc out HO.out.1 HO.out.2.1 HO.out.2.2.1 HO.out.2.2.2.1 hps0 HO.out.2.2.2.2.1 (by omega) hkey htop hruns hrl hbs hSn hSw hl1 hl2
            have HN : Hid (out ≠ []) := hne
            clear hl1 hl2 hlay hne
            go_wp2_with fail
            refine hla.mono ?_
            clear hla
            rintro e w3 ⟨hT3, er3, g1, rs1, sz1, jc1, S1, rfl, hR, hM3⟩
            have HR : Hid (LayR g out rs sz S er3 g1 rs1 sz1 jc1 S1 ∧ MS (grow Q w2 w3) w3 m d j g1 rs1 sz1 jc1 S1 ∧ Turn Q w2 w3) := ⟨hR, hM3, hT3⟩
            have c6 : w3.cell? ⟨m, 6, none⟩ = some (.bool g1.failed) ∧ w3.frozen? ⟨m, 6, none⟩ = false := by
              obtain ⟨vr, pa, pc, FM, FJ, G, h1, _⟩ := hM3
              exact ⟨h1.cells.2.2.2.2.2.2, h1.frozen 6⟩
            obtain ⟨c6, f6⟩ := c6
            clear hR hM3 hT3 q4 q5
            have HZ : Hid (AddA Q w m d j g l rs sz false S (.returned (.int .i64 er3)) (w3.setCell ⟨m, 6, none⟩ (.bool (decide (er3 ≠ 0))))) := by
              obtain ⟨hM4, hT4⟩ := HR.out.2.1.failed (decide (er3 ≠ 0))
              have hQm : grow Q w2 w3 m := by
                obtain ⟨vr, pa, pc, FM, FJ, G, h1, _, _, _, _, h6⟩ := HR.out.2.1
                exact h6 m (.inl h1.fm)
              have s3 := HR.out.2.2.size
              refine ⟨((Turn.of_below Q HB.out).trans HR.out.2.2 (fun _ _ e => e)).trans hT4 (fun k hk e => by
                subst e
                rcases hQm with h | h
                · exact h
                · omega), er3, _, rs1, sz1, jc1, S1, rfl, .inr ⟨hf, HD.out.2.2.1, HD.out.2.2.2, dl, out, g1, HD.out.1, HD.out.2.1, HO.out.2.2.2.2.2.2, HN.out, by omega, HR.out.1, rfl⟩, hM4.wide fun k hk => ?_⟩
              have s4 := hT4.size
              rcases hk with hk | hk
              · exact .inl hk
              · exact .inr ⟨by omega, by omega⟩
            by_cases he : er3 = 0
            · subst he
              rw [show decide ((0 : Int) ≠ 0) = false from rfl] at HZ
              go_wp2
              go_ret
              exact HZ.out
            · have i4 : (er3 != 0) = true := by simp [he]
              have i5 : decide (er3 ≠ 0) = true := by simp [he]
              rw [i5] at HZ
              go_wp2
              go_ret
              exact HZ.out
end Go.Proofs.YtdjodigimhgklaaGreatDoor
