import Derived.Test.YtdjodigimhgklaaGreatDoorMD34
/- Plain: whatever is added to a memo on a disk that nobody cuts: it knows what it knew and the new pairs. -/
namespace Go.Proofs.YtdjodigimhgklaaGreatDoor
open Go.RowKit Go.Shelf Go.Maps

/-- a memo of a new disk that nobody cuts, behind k Adds that wrote -/
structure FreeM (k : Nat) (g : Me) (sz : Nat) (S : DG) : Prop where
  good : g.failed = false
  top : g.top ≤ k
  rl : g.runs.length ≤ 4
  runs : ∀ x ∈ g.runs, 0 < x ∧ x ≤ g.top
  nd : g.runs.Nodup
  cut : S.cut = false
  n : S.n ≤ 2 * k
  there : ∀ x ∈ g.runs, (S.f (nmB g.key x)).isSome = true
  fresh : ∀ x, g.top < x → x < 100 → S.f (nmB g.key x) = none
  jsz : (S.bs (nmB g.key 0)).length ≤ k * 200
  szle : sz ≤ (S.bs (nmB g.key 0)).length
  wr : S.wr ≤ k * 100000
  ris : Ris g.ps
  ok : PrOk g.ps
  p0 : ∀ p ∈ g.ps, p.1 ≠ 0
theorem freeM_new (key : Nat) : FreeM 0 ⟨key, [], 0, [], false⟩ 0 emD where
  good := rfl
  top := Nat.le_refl _
  rl := Nat.zero_le _
  runs := fun x h => by cases h
  nd := List.nodup_nil
  cut := rfl
  n := Nat.le_refl _
  there := fun x h => by cases h
  fresh := fun _ _ _ => rfl
  jsz := Nat.le_refl _
  szle := Nat.zero_le _
  wr := Nat.le_refl _
  ris := List.Pairwise.nil
  ok := fun p h => by cases h
  p0 := fun p h => by cases h
theorem rem_f (S : DG) (l x : List UInt8) : (S.done.rem l).f x = if x = l then none else S.f x := rfl
/-- run files that are there are taken away, all -/
theorem remS_free (key : Nat) : ∀ (l : List Nat) (S : DG), S.cut = false → l.Nodup → (∀ x ∈ l, x < 100 ∧ (S.f (nmB key x)).isSome = true) →
    (remS key S l).2 = 0 ∧ (remS key S l).1.cut = false ∧ (remS key S l).1.n ≤ S.n ∧ (remS key S l).1.wr = S.wr + l.length ∧ ∀ y, (remS key S l).1.f y = if y ∈ l.map (nmB key) then none else S.f y
  | [], S, hc, _, _ => ⟨rfl, hc, Nat.le_refl _, rfl, fun y => by simp [remS]⟩
  | n :: r, S, hc, hd, hl => by
    have hn := hl n (List.mem_cons_self ..)
    have hd' := List.nodup_cons.1 hd
    have hne : ¬ S.f (nmB key n) = none := fun e => by rw [e] at hn; cases hn.2
    have hr : S.remove (nmB key n) = (S.done.rem (nmB key n), 0) := by
      unfold DG.remove
      rw [if_neg hne, if_pos (by unfold DG.can; rw [hc]; rfl)]
    have hdn : S.done.n = S.n := rfl
    have hdf : S.done.f = S.f := rfl
    have hnn : (S.done.rem (nmB key n)).n ≤ S.n := by
      show (if (S.done.f (nmB key n)).isSome then S.done.n - 1 else S.done.n) ≤ S.n
      rw [hdn]; split <;> omega
    obtain ⟨h1, h2, h3, h4, h5⟩ := remS_free key r (S.done.rem (nmB key n)) (by show S.cut = false; exact hc) hd'.2 (fun x hx => by
      have hx' := hl x (List.mem_cons_of_mem _ hx)
      refine ⟨hx'.1, ?_⟩
      rw [rem_f, if_neg (fun e => hd'.1 ((nmB_num hx'.1 hn.1 e) ▸ hx))]
      exact hx'.2)
    unfold remS
    rw [hr, if_pos rfl]
    refine ⟨h1, h2, Nat.le_trans h3 hnn, ?_, fun y => ?_⟩
    · rw [h4]
      show S.wr + 1 + r.length = S.wr + (n :: r).length
      rw [List.length_cons]; omega
    · rw [h5, rem_f]
      simp only [List.map_cons, List.mem_cons]
      by_cases e1 : y ∈ r.map (nmB key)
      · simp [e1]
      · by_cases e2 : y = nmB key n <;> simp [e1, e2]
theorem layR_len (g : Me) (h : g.runs.length ≤ 4) : (layR g).length ≤ 4 := by
  unfold layR
  split
  · simp
  · rw [List.length_cons]; omega
theorem recR_small (g : Me) (h : g.runs.length ≤ 4) : (recB (encR (layR g))).length ≤ 200 ∧ recB (encR (layR g)) ≠ [] := by
  have h1 := recB_pos (encR (layR g))
  have h2 : (encR (layR g)).length ≤ 50 := by
    have e1 := numsB_len (layR g)
    have e2 := short_len (layR g).length
    have e3 := layR_len g h
    unfold encR
    rw [List.length_append]
    omega
  refine ⟨by omega, fun e => ?_⟩
  rw [e] at h1
  simp at h1
theorem layN_len (g : Me) (news : List Pr) : (layN g news).length ≤ g.ps.length + news.length := by
  unfold layN
  split
  · rw [mergeM_len]; exact Nat.le_refl _
  · omega
/-- what lay needs of such a memo -/
theorem FreeM.lay {k : Nat} {g : Me} {sz : Nat} {S : DG} (h : FreeM k g sz S) (hk : k < 40) (news : List Pr) (hn : g.ps.length + news.length ≤ 4000) :
    layS1 g news S = (S.freeApp (nmB g.key (g.top + 1)) (runB (layN g news)), 0) ∧ layS2 g news S = ((S.freeApp (nmB g.key (g.top + 1)) (runB (layN g news))).freeApp (nmB g.key 0) (recB (encR (layR g))), 0) ∧ S.bs (nmB g.key (g.top + 1)) = [] ∧ (runB (layN g news)).length ≤ 80000 := by
  have htop : g.top + 1 < 100 := by have := h.top; omega
  have hbs : S.bs (nmB g.key (g.top + 1)) = [] := by unfold DG.bs; rw [h.fresh _ (by omega) htop]; rfl
  have hr := recR_small g h.rl
  have hN := layN_len g news
  have hb := runB_len (layN g news)
  have hs := short_len (layN g news).length
  obtain ⟨h1, h2⟩ := lay_free (g := g) (news := news) (S := S) h.cut htop hbs (by omega) (by have := h.n; omega) (by have := h.jsz; omega) (by omega) hr.2
  exact ⟨h1, h2, hbs, by omega⟩
/-- what Add asks of its disk -/
theorem FreeM.hlay {k : Nat} {g : Me} {sz : Nat} {S : DG} (h : FreeM k g sz S) (hk : k < 40) (l : List Pr) (n : Nat) (hn : g.ps.length + n ≤ 4000) :
    ∀ news : List Pr, (∀ p ∈ news, p ∈ l) → news.length ≤ n → ((layS1 g news S).2 = 0 → ((layS1 g news S).1.bs (nmB g.key 0)).length ≤ 4194304 ∧ sz ≤ ((layS1 g news S).1.bs (nmB g.key 0)).length ∧ (layS1 g news S).1.n ≤ 256 ∧ (layS1 g news S).1.wr < 4000000000000000000) ∧
      ((layS2 g news S).2 = 0 → (layS2 g news S).1.wr < 4000000000000000000) := by
  intro news _ hl
  obtain ⟨h1, h2, h3, h4⟩ := h.lay hk news (by omega)
  have htop := h.top
  have hr := recR_small g h.rl
  have hj := h.jsz
  have hw := h.wr
  have hnn := h.n
  rw [h1, h2]
  refine ⟨fun _ => ⟨?_, ?_, ?_, ?_⟩, fun _ => ?_⟩
  · show ((S.freeApp _ _).bs _).length ≤ _
    rw [freeApp_bs, if_neg (fun e => by have := nmB_num (by omega) (by omega) e; omega)]
    omega
  · show sz ≤ ((S.freeApp _ _).bs _).length
    rw [freeApp_bs, if_neg (fun e => by have := nmB_num (by omega) (by omega) e; omega)]
    exact h.szle
  · show (S.freeApp _ _).n ≤ 256
    rw [freeApp_n]
    split <;> omega
  · show (S.freeApp _ _).wr < _
    rw [freeApp_wr]
    omega
  · show ((S.freeApp _ _).freeApp _ _).wr < _
    rw [freeApp_wr, freeApp_wr]
    omega
theorem look_ok {l : List Pr} (h : ∀ p ∈ l, p.1 ≠ 0) : lookP l 0 = none := (look_none l 0).2 h
/-- news of pairs that fit what is known -/
theorem newsR_fits (ps : List Pr) : ∀ (d acc : List Pr), (∀ p ∈ d, lookP ps p.1 = none ∨ lookP ps p.1 = some p.2) → newsR ps acc d = some (acc ++ d.filter fun p => (lookP ps p.1).isNone)
  | [], acc, _ => by simp [newsR]
  | p :: r, acc, h => by
    have hr := fun acc => newsR_fits ps r acc fun q hq => h q (List.mem_cons_of_mem _ hq)
    rcases h p (List.mem_cons_self ..) with e | e
    · have hs : newsS ps acc p = some (acc ++ [p]) := by unfold newsS; rw [e]
      rw [newsR, hs, Option.bind_some, hr, List.filter_cons_of_pos (by rw [e]; rfl)]
      simp
    · have hs : newsS ps acc p = some acc := by unfold newsS; rw [e]; simp
      rw [newsR, hs, Option.bind_some, hr, List.filter_cons_of_neg (by rw [e]; simp)]
/-- an Add of pairs that fit: all is known behind it -/
theorem FreeM.add {k : Nat} {g : Me} {sz : Nat} {S : DG} (h : FreeM k g sz S) (hk : k < 40) {l : List Pr} (hn : g.ps.length + l.length ≤ 4000) (h0 : ∀ p ∈ l, p.1 ≠ 0) (ho : Once l) (hfit : ∀ p ∈ l, lookP g.ps p.1 = none ∨ lookP g.ps p.1 = some p.2)
    {rs : List (List UInt8)} {jc : Bool} {er : Int} {g' : Me} {rs' : List (List UInt8)} {sz' : Nat} {jc' : Bool} {S' : DG} (hj : jc = false) (hR : AddR g l rs sz jc S er g' rs' sz' jc' S') :
    er = 0 ∧ jc' = false ∧ FreeM (k + 1) g' sz' S' ∧ g'.key = g.key ∧ g'.ps.length ≤ g.ps.length + l.length ∧ ∀ x, lookP g'.ps x = (lookP g.ps x).or (lookP l x) := by
  have hsame : ∀ {d : List Pr}, d.Perm l → (∀ p ∈ d, lookP g.ps p.1 ≠ none) → ∀ x, lookP g.ps x = (lookP g.ps x).or (lookP l x) := fun {d} hp hd x => by
    cases e : lookP g.ps x with
    | some y => rfl
    | none =>
      cases e2 : lookP l x with
      | none => rfl
      | some y =>
        have hm := look_mem e2
        exact absurd e (hd _ (hp.mem_iff.2 hm))
  have hfree : FreeM (k + 1) g sz S := ⟨h.good, Nat.le_succ_of_le h.top, h.rl, h.runs, h.nd, h.cut, Nat.le_trans h.n (by omega), h.there, h.fresh, Nat.le_trans h.jsz (Nat.mul_le_mul_right _ (Nat.le_succ k)), h.szle, Nat.le_trans h.wr (Nat.mul_le_mul_right _ (Nat.le_succ k)), h.ris, h.ok, h.p0⟩
  rcases hR with ⟨⟨rfl, rfl, rfl, rfl, rfl⟩, hc⟩ | ⟨_, _, _, d, news, g1, hg, hp, hnw, hn0, hlen, hL, rfl⟩
  · rcases hc with ⟨hc, _⟩ | ⟨_, ⟨p, hp, e⟩, _⟩ | ⟨_, _, e, _⟩ | ⟨_, _, _, d, hg, hp, hc⟩
    · rw [h.good] at hc; cases hc
    · exact absurd e (h0 p hp)
    · exact absurd ho e
    · have hdf : ∀ p ∈ d, lookP g'.ps p.1 = none ∨ lookP g'.ps p.1 = some p.2 := fun p hpd => hfit p (hp.mem_iff.1 hpd)
      have hnr := newsR_fits g'.ps d [] hdf
      rw [List.nil_append] at hnr
      rcases hc with ⟨e, _⟩ | ⟨e, e0⟩ | ⟨news, e, _, hbig, _⟩
      · rw [hnr] at e; cases e
      · rw [hnr] at e
        have hnil : d.filter (fun p => (lookP g'.ps p.1).isNone) = [] := Option.some.inj e
        exact ⟨e0, hj, hfree, rfl, by omega, hsame hp fun p hpd e' => by
          have := List.filter_eq_nil_iff.1 hnil p hpd
          rw [e'] at this
          exact this rfl⟩
      · rw [hnr] at e
        have hnews := Option.some.inj e
        have : news.length ≤ l.length := by rw [← hnews, ← hp.length_eq]; exact List.length_filter_le _ _
        omega
  · have hdf : ∀ p ∈ d, lookP g.ps p.1 = none ∨ lookP g.ps p.1 = some p.2 := fun p hpd => hfit p (hp.mem_iff.1 hpd)
    have hnr := newsR_fits g.ps d [] hdf
    rw [List.nil_append] at hnr
    rw [hnr] at hnw
    obtain rfl := Option.some.inj hnw
    have hdr := (risF_iff d 0).1 hg.ris
    have hnl : (d.filter fun p => (lookP g.ps p.1).isNone).length ≤ l.length := by rw [← hp.length_eq]; exact List.length_filter_le _ _
    have hnris : Ris (d.filter fun p => (lookP g.ps p.1).isNone) := hdr.1.filter _
    have hnno : ∀ p ∈ d.filter (fun p => (lookP g.ps p.1).isNone), lookP g.ps p.1 = none := fun p hpf => by
      have := (List.mem_filter.1 hpf).2
      cases e : lookP g.ps p.1 with
      | none => rfl
      | some y => rw [e] at this; cases this
    have hnok : PrOk (d.filter fun p => (lookP g.ps p.1).isNone) := fun p hpf => hg.ok p (List.mem_filter.1 hpf).1
    obtain ⟨h1, h2, h3, h4⟩ := h.lay hk _ (show g.ps.length + (d.filter fun p => (lookP g.ps p.1).isNone).length ≤ 4000 by omega)
    obtain ⟨S2, hS2⟩ : ∃ S2, S2 = (S.freeApp (nmB g.key (g.top + 1)) (runB (layN g (d.filter fun p => (lookP g.ps p.1).isNone)))).freeApp (nmB g.key 0) (recB (encR (layR g))) := ⟨_, rfl⟩
    have htop := h.top
    have hrec := recR_small g h.rl
    have hne0 : ∀ x, x < 100 → 0 < x → nmB g.key x ≠ nmB g.key 0 := fun x hx h0 e => by have := nmB_num hx (by omega) e; omega
    have hSf : ∀ y, S2.f y = if y = nmB g.key 0 then some (S.bs (nmB g.key 0) ++ recB (encR (layR g))) else if y = nmB g.key (g.top + 1) then some (runB (layN g (d.filter fun p => (lookP g.ps p.1).isNone))) else S.f y := fun y => by
      rw [hS2, freeApp_f, freeApp_f, freeApp_bs, h3, List.nil_append, if_neg (Ne.symm (hne0 (g.top + 1) (by omega) (by omega)))]
    have hSn : S2.n ≤ S.n + 2 := by
      rw [hS2, freeApp_n, freeApp_n]
      split <;> split <;> omega
    have hSw : S2.wr ≤ S.wr + 3000 := by
      rw [hS2, freeApp_wr, freeApp_wr]
      omega
    have hSc : S2.cut = false := by rw [hS2, freeApp_cut, freeApp_cut]; exact h.cut
    rw [← hS2] at h2
    unfold LayR at hL
    rw [h1, h2] at hL
    rcases hL with ⟨e, _⟩ | ⟨_, e, _⟩ | ⟨_, _, l', hperm, _, he, rfl, rfl, rfl, rfl, rfl⟩
    · exact absurd rfl e
    · exact absurd rfl e
    · have hol : ∀ x ∈ l', x ∈ g.runs := fun x hx => by
        have := hperm.mem_iff.1 hx
        unfold layO at this
        split at this
        · exact this
        · cases this
      have hond : l'.Nodup := by
        refine hperm.nodup_iff.2 ?_
        unfold layO
        split
        · exact h.nd
        · exact List.nodup_nil
      have holen : l'.length ≤ 4 := by
        rw [hperm.length_eq]
        unfold layO
        split
        · exact h.rl
        · exact Nat.zero_le _
      obtain ⟨r1, r2, r3, r4, r5⟩ := remS_free g.key l' S2 hSc hond fun x hx => by
        have hx' := h.runs x (hol x hx)
        refine ⟨by omega, ?_⟩
        rw [hSf, if_neg (hne0 x (by omega) hx'.1), if_neg (fun e => by have := nmB_num (by omega) (by omega) e; omega)]
        exact h.there x (hol x hx)
      have e0 : er = 0 := by rw [he]; exact r1
      subst e0
      have hj0 : ∀ y, y ∈ l'.map (nmB g.key) → ∃ x ∈ g.runs, y = nmB g.key x := fun y hy => by
        obtain ⟨x, hx, rfl⟩ := List.mem_map.1 hy
        exact ⟨x, hol x hx, rfl⟩
      have hfj : (remS g.key S2 l').1.f (nmB g.key 0) = some (S.bs (nmB g.key 0) ++ recB (encR (layR g))) := by
        rw [r5, if_neg (fun hy => by
          obtain ⟨x, hx, e⟩ := hj0 _ hy
          have hx' := h.runs x hx
          exact hne0 x (by omega) hx'.1 e.symm), hSf, if_pos rfl]
      refine ⟨rfl, rfl, ?_, rfl, ?_, fun x => ?_⟩
      · exact {
          good := rfl
          top := by show g.top + 1 ≤ k + 1; omega
          rl := layR_len g h.rl
          runs := fun x hx => by
            have hx : x ∈ layR g := hx
            show 0 < x ∧ x ≤ g.top + 1
            unfold layR at hx
            rcases List.mem_cons.1 hx with rfl | hx
            · omega
            · split at hx
              · cases hx
              · have := h.runs x hx; omega
          nd := by
            show (layR g).Nodup
            unfold layR
            refine List.nodup_cons.2 ⟨fun hx => ?_, ?_⟩
            · split at hx
              · cases hx
              · have := h.runs _ hx; omega
            · split
              · exact List.nodup_nil
              · exact h.nd
          cut := r2
          n := by
            show (remS g.key S2 l').1.n ≤ 2 * (k + 1)
            have := h.n; omega
          there := fun x hx => by
            have hx : x ∈ layR g := hx
            show ((remS g.key S2 l').1.f (nmB g.key x)).isSome = true
            have hmem : x = g.top + 1 ∨ (x ∈ g.runs ∧ g.runs.length ≠ 4) := by
              unfold layR at hx
              rcases List.mem_cons.1 hx with rfl | hx
              · exact .inl rfl
              · split at hx
                · cases hx
                · exact .inr ⟨hx, by assumption⟩
            rw [r5, if_neg (fun hy => by
              obtain ⟨z, hz, e⟩ := List.mem_map.1 hy
              have hz1 := h.runs z (hol z hz)
              have hz2 := hperm.mem_iff.1 hz
              rcases hmem with rfl | ⟨hm, h4'⟩
              · have := nmB_num (by omega) (by omega) e; omega
              · unfold layO at hz2
                rw [if_neg h4'] at hz2
                cases hz2)]
            rw [hSf]
            rcases hmem with rfl | ⟨hm, _⟩
            · rw [if_neg (hne0 _ (by omega) (by omega)), if_pos rfl]; rfl
            · have hx' := h.runs x hm
              rw [if_neg (hne0 x (by omega) hx'.1)]
              split
              · rfl
              · exact h.there x hm
          fresh := fun x hx hx2 => by
            have hx : g.top + 1 < x := hx
            show (remS g.key S2 l').1.f (nmB g.key x) = none
            rw [r5]
            split
            · rfl
            · rw [hSf, if_neg (hne0 x hx2 (by omega)), if_neg (fun e => by have := nmB_num hx2 (by omega) e; omega)]
              exact h.fresh x (by omega) hx2
          jsz := by
            show ((remS g.key S2 l').1.bs (nmB g.key 0)).length ≤ _
            unfold DG.bs at *
            rw [hfj, Option.getD_some, List.length_append]
            have := h.jsz
            unfold DG.bs at this
            omega
          szle := by
            show _ ≤ ((remS g.key S2 l').1.bs (nmB g.key 0)).length
            have := h.szle
            unfold DG.bs at *
            rw [hfj, Option.getD_some, List.length_append]
            omega
          wr := by
            show (remS g.key S2 l').1.wr ≤ _
            rw [r4]
            have := h.wr
            omega
          ris := mergeM_ris _ _ h.ris hnris hnno
          ok := mergeM_ok h.ok hnok
          p0 := fun p hpm => by
            rcases (mergeM_mem g.ps _ p).1 hpm with hpm | hpm
            · exact h.p0 p hpm
            · have := hdr.2 p (List.mem_filter.1 hpm).1
              omega }
      · show (mergeM g.ps _).length ≤ _
        rw [mergeM_len]
        omega
      · show lookP (mergeM g.ps _) x = _
        rw [mergeM_look h.ris hnris hnno]
        cases e : lookP g.ps x with
        | some y => rfl
        | none =>
          rw [Option.none_or, Option.none_or]
          have hl : lookP l x = lookP d x := (look_perm (Ris.once hdr.1) hp x).symm
          rw [hl]
          cases e2 : lookP d x with
          | none =>
            refine (look_none _ _).2 fun q hq => ?_
            exact (look_none d x).1 e2 q (List.mem_filter.1 hq).1
          | some y =>
            have hm := look_mem e2
            exact ris_mem_look hnris (List.mem_filter.2 ⟨hm, by rw [e]; rfl⟩)
end Go.Proofs.YtdjodigimhgklaaGreatDoor

/- wakes: a memo on a new disk. -/
namespace Go.Proofs.YtdjodigimhgklaaGreatDoor
open Go.RowKit Go.Shelf Go.Maps

attribute [local go_sem] Oper.semAt_some

theorem rec1_small : (recB (encR [1])).length ≤ 100000 ∧ recB (encR [1]) ≠ [] := by
  have h1 := recB_pos (encR [1])
  have h2 : (encR [1]).length ≤ 20 := by
    have := numsB_len [1]
    have := short_len ([1] : List Nat).length
    unfold encR
    rw [List.length_append]
    have : ([1] : List Nat).length = 1 := rfl
    omega
  refine ⟨by omega, fun e => ?_⟩
  rw [e] at h1
  simp at h1
theorem MS.look {Q : Nat → Prop} {w : World} {m d j : Nat} {g : Me} {rs : List (List UInt8)} {sz : Nat} {jc : Bool} {S : DG} (h : MS Q w m d j g rs sz jc S) (c : Nat) :
    Calls Tryz.prog 27 #[.pointer (some ⟨m, 0, none⟩), .int .u64 (c : Int)] w fun e w' => e = .returned (stdV (lookP g.ps c)) ∧ Below w.heap.size w w' := by
  obtain ⟨vr, pa, pc, FM, FJ, G, h1, _⟩ := h
  exact standin_any w m d j g vr pa pc FM h1 c
theorem MS.length {Q : Nat → Prop} {w : World} {m d j : Nat} {g : Me} {rs : List (List UInt8)} {sz : Nat} {jc : Bool} {S : DG} (h : MS Q w m d j g rs sz jc S) :
    Calls Tryz.prog 30 #[.pointer (some ⟨m, 0, none⟩)] w fun e w' => e = .returned (nV g.ps.length) ∧ w' = w := by
  obtain ⟨vr, pa, pc, FM, FJ, G, h1, _⟩ := h
  exact mlen_any w m d j g vr pa pc FM h1

set_option maxRecDepth 100000 in
set_option maxHeartbeats 4000000 in
theorem wakes18 (w : World) : Calls Tryz.prog 8 #[] w fun e w' => e = .returned (.bool true) ∧ Below w.heap.size w w' := by
  have hnw := new_any w
  go_enter Tryz.func8, Tryz.ntmps8
  go_wp2_with fail
  refine hnw.mono ?_
  clear hnw
  rintro e w1 ⟨rfl, hd1, hB1⟩
  have hop : Calls Tryz.prog 10 #[.pointer (some ⟨w.heap.size + 1, 0, none⟩), .int .u64 255] w1 _ := emD_open w1 (w.heap.size + 1) 255 _ hd1 (by decide) (by decide)
  have H1 : Hid (Below w.heap.size w w1 ∧ ∀ k, (k = w.heap.size ∨ k = w.heap.size + 1) → w.heap.size ≤ k ∧ k < w1.heap.size) := ⟨hB1, fun k hk => ⟨by omega, hd1.lt k hk⟩⟩
  clear hd1 hB1
  go_wp2_with fail
  refine hop.mono ?_
  clear hop
  rintro e w2 ⟨hT2, m, j, rfl, hM2⟩
  obtain ⟨Q, hQ⟩ : ∃ Q, Q = grow (fun k => k = w.heap.size ∨ k = w.heap.size + 1) w1 w2 := ⟨_, rfl⟩
  have H2 : Hid (MS Q w2 m (w.heap.size + 1) j ⟨255, [], 0, [], false⟩ [] 0 false emD ∧ Below w.heap.size w w2 ∧ ∀ k, Q k → w.heap.size ≤ k ∧ k < w2.heap.size) := by
    have hs1 := H1.out.1.size
    have hs2 := hT2.size
    refine ⟨by rw [hQ]; exact hM2, H1.out.1.trans (hT2.below H1.out.1.size (fun k hk => (H1.out.2 k hk).1)), fun k hk => ?_⟩
    rw [hQ] at hk
    rcases hk with hk | hk
    · have := H1.out.2 k hk; omega
    · omega
  clear hT2 hM2 hQ
  go_wp2_with fail
  obtain ⟨w3, hw3⟩ : ∃ w3, w3 = w2.alloc (.cells #[.int .u64 7, .int .u64 0, .int .u64 3, .int .u64 9] 39) := ⟨_, rfl⟩
  have hB3 : Below w2.heap.size w2 w3 := by rw [hw3]; exact (Below.refl _ _).alloc (Nat.le_refl _) _
  have hbx : w3.heap[w2.heap.size]? = some (.cells #[.int .u64 7, .int .u64 0, .int .u64 3, .int .u64 9] 39) := by rw [hw3]; exact World.alloc_heap_new w2 _
  have hp3 : PrV w3 (some ⟨w2.heap.size, 0, none⟩) 2 2 [(7, 0), (3, 9)] := by
    refine ⟨⟨rfl, fun _ => ⟨w2.heap.size, 0, rfl, fun q x hx => ?_⟩⟩, fun e => (by cases e), Nat.le_refl _⟩
    match q, hx with
    | 0, hx => cases hx; exact ⟨by simp [World.cell?, hbx], by simp [World.cell?, hbx]⟩
    | 1, hx => cases hx; exact ⟨by simp [World.cell?, hbx], by simp [World.cell?, hbx]⟩
  have had := yadd_any Q w3 m (w.heap.size + 1) j ⟨255, [], 0, [], false⟩ [] 0 false emD (H2.out.1.below hB3) (fun k hk => by have := H2.out.2.2 k hk; have := hB3.size; omega) (fun _ => rfl)
    (some ⟨w2.heap.size, 0, none⟩) 2 2 [(7, 0), (3, 9)] hp3 (fun p hp => by simp at hp; rcases hp with rfl | rfl <;> decide) (fun p hp => by cases hp) (by decide) (by decide) (by decide) (fun x hx => by cases hx) (by decide) (Nat.zero_le _) (by decide) (by decide)
    (fun news _ hn => by
      have hl := lay_free (g := ⟨255, [], 0, [], false⟩) (news := news) (S := emD) rfl (by decide) rfl (by show news.length ≤ 65536; omega) (by decide) (Nat.zero_le _) rec1_small.1 rec1_small.2
      rw [hl.1, hl.2]
      have h1 := runB_len news
      have h2 := short_len news.length
      have h3 := rec1_small.1
      refine ⟨fun _ => ⟨?_, Nat.zero_le _, ?_, ?_⟩, fun _ => ?_⟩
      · show ((emD.freeApp _ _).bs _).length ≤ _
        rw [freeApp_bs]
        split
        · show ((([] : List UInt8) ++ runB news).length) ≤ _
          rw [List.nil_append]
          omega
        · exact Nat.zero_le _
      · show (1 : Nat) ≤ 256
        omega
      · show 0 + ((runB news).length + 31) / 32 < _
        omega
      · show 0 + ((runB news).length + 31) / 32 + ((recB (encR [1])).length + 31) / 32 < _
        omega)
  have HB3 : Hid (Below w.heap.size w w3) := H2.out.2.1.trans (hB3.mono H2.out.2.1.size)
  rw [← hw3]
  clear hw3 hbx hp3 hB3
  refine had.mono ?_
  clear had
  rintro e w4 ⟨hT4, er, g', rs', sz', jc', S', rfl, hR, hM4⟩
  obtain ⟨rfl, hlen, hlook, _⟩ := add_first (by decide) (by decide) (by decide) rec1_small.1 rec1_small.2 hR
  have hB4 : Below w.heap.size w w4 := HB3.out.trans (hT4.below HB3.out.size (fun k hk => (H2.out.2.2 k hk).1))
  have l3 : lookP g'.ps 3 = some 9 := hlook 3
  have l7 : lookP g'.ps 7 = some 0 := hlook 7
  have l5 : lookP g'.ps 5 = none := hlook 5
  have HM : Hid (MS (grow Q w3 w4) w4 m (w.heap.size + 1) j g' rs' sz' jc' S' ∧ Below w.heap.size w w4) := ⟨hM4, hB4⟩
  have s3 : ∀ W, Below w4.heap.size w4 W → Calls Tryz.prog 27 #[.pointer (some ⟨m, 0, none⟩), .int .u64 3] W fun e w' => e = .returned (.tuple #[.int .u64 9, .bool true]) ∧ Below W.heap.size W w' := fun W hW => by
    have := (HM.out.1.below hW).look 3
    rwa [l3] at this
  have s7 : ∀ W, Below w4.heap.size w4 W → Calls Tryz.prog 27 #[.pointer (some ⟨m, 0, none⟩), .int .u64 7] W fun e w' => e = .returned (.tuple #[.int .u64 0, .bool true]) ∧ Below W.heap.size W w' := fun W hW => by
    have := (HM.out.1.below hW).look 7
    rwa [l7] at this
  have s5 : ∀ W, Below w4.heap.size w4 W → Calls Tryz.prog 27 #[.pointer (some ⟨m, 0, none⟩), .int .u64 5] W fun e w' => e = .returned (.tuple #[.int .u64 0, .bool false]) ∧ Below W.heap.size W w' := fun W hW => by
    have := (HM.out.1.below hW).look 5
    rwa [l5] at this
  have sl : ∀ W, Below w4.heap.size w4 W → Calls Tryz.prog 30 #[.pointer (some ⟨m, 0, none⟩)] W fun e w' => e = .returned (.int .i64 2) ∧ w' = W := fun W hW => by
    have := (HM.out.1.below hW).length
    rwa [hlen] at this
  have HS : Hid ((∀ W, Below w4.heap.size w4 W → Calls Tryz.prog 27 #[.pointer (some ⟨m, 0, none⟩), .int .u64 7] W fun e w' => e = .returned (.tuple #[.int .u64 0, .bool true]) ∧ Below W.heap.size W w') ∧ (∀ W, Below w4.heap.size w4 W → Calls Tryz.prog 27 #[.pointer (some ⟨m, 0, none⟩), .int .u64 5] W fun e w' => e = .returned (.tuple #[.int .u64 0, .bool false]) ∧ Below W.heap.size W w') ∧ ∀ W, Below w4.heap.size w4 W → Calls Tryz.prog 30 #[.pointer (some ⟨m, 0, none⟩)] W fun e w' => e = .returned (.int .i64 2) ∧ w' = W) := ⟨s7, s5, sl⟩
  have hs3 := s3 w4 (Below.refl _ _)
  clear hT4 hR hM4 hlen hlook hB4 l3 l7 l5 s3 s7 s5 sl
  go_wp2_with fail
  refine hs3.mono ?_
  clear hs3
  rintro e w5 ⟨rfl, hB5⟩
  have HB5 : Hid (Below w4.heap.size w4 w5) := hB5
  have hs7 := HS.out.1 w5 hB5
  clear hB5
  go_wp2_with fail
  refine hs7.mono ?_
  clear hs7
  rintro e w6 ⟨rfl, hB6⟩
  have HB6 : Hid (Below w4.heap.size w4 w6) := HB5.out.trans (hB6.mono HB5.out.size)
  have hs5 := HS.out.2.1 w6 HB6.out
  clear hB6
  go_wp2_with fail
  refine hs5.mono ?_
  clear hs5
  rintro e w7 ⟨rfl, hB7⟩
  have HB7 : Hid (Below w4.heap.size w4 w7) := HB6.out.trans (hB7.mono HB6.out.size)
  have hsl := HS.out.2.2 w7 HB7.out
  clear hB7
  go_wp2_with fail
  refine hsl.mono ?_
  clear hsl
  rintro e w8 ⟨rfl, hw8⟩
  subst hw8
  go_wp2
  go_ret
  exact ⟨rfl, HM.out.2.trans (HB7.out.mono HM.out.2.size)⟩
end Go.Proofs.YtdjodigimhgklaaGreatDoor
