import Derived.Test.YtdjodigimhgklaaGreatDoorP41
/- The memo's first Add on an empty disk. -/
namespace Go.Proofs.YtdjodigimhgklaaGreatDoor
open Go.RowKit Go.Shelf Go.Maps

theorem layR_free {g : Me} {news : List Pr} {rs : List (List UInt8)} {sz : Nat} {S : DG} {er : Int} {g' : Me} {rs' : List (List UInt8)} {sz' : Nat} {jc' : Bool} {S' S1 S2 : DG} (h4 : g.runs.length < 4) (h1 : layS1 g news S = (S1, 0)) (h2 : layS2 g news S = (S2, 0)) (h : LayR g news rs sz S er g' rs' sz' jc' S') :
    er = 0 ∧ g' = layG g news ∧ rs' = rs ++ [encR (layR g)] ∧ sz' = sz + (recB (encR (layR g))).length ∧ jc' = false ∧ S' = S2 := by
  unfold LayR at h
  rw [h1, h2] at h
  rcases h with ⟨h, _⟩ | ⟨_, h, _⟩ | ⟨_, _, l', hp, _, he, hg, hr, hs, hj, hS⟩
  · exact absurd rfl h
  · exact absurd rfl h
  · have : layO g = [] := by unfold layO; rw [if_neg (by omega)]
    rw [this] at hp
    have hl : l' = [] := List.Perm.eq_nil hp
    subst hl
    exact ⟨he, hg, hr, hs, hj, hS⟩
theorem mergeM_nil : ∀ d : List Pr, Ris d → ∀ x, lookP (mergeM [] d) x = lookP d x := fun d hd x => by
  rw [mergeM_look List.Pairwise.nil hd (fun p _ => rfl)]
  rfl
/-- the first Add of a memo that knows nothing, on an empty disk, of pairs that may be a run -/
theorem add_first {l : List Pr} {key : Nat} {er : Int} {g' : Me} {rs' : List (List UInt8)} {sz' : Nat} {jc' : Bool} {S' : DG} (h0 : ∀ p ∈ l, p.1 ≠ 0) (ho : Once l) (hne : l ≠ []) (hR : (recB (encR [1])).length ≤ 100000) (hR0 : recB (encR [1]) ≠ []) (h : AddR ⟨key, [], 0, [], false⟩ l [] 0 false emD er g' rs' sz' jc' S') :
    er = 0 ∧ g'.ps.length = l.length ∧ (∀ x, lookP g'.ps x = lookP l x) ∧ g'.failed = false := by
  rcases h with ⟨_, h⟩ | ⟨_, _, _, d, news, g1, hg, hp, hnw, hn0, hlen, hL, rfl⟩
  · rcases h with ⟨h, _⟩ | ⟨_, ⟨p, hp, h⟩, _⟩ | ⟨_, _, h, _⟩ | ⟨_, _, _, d, hg, hp, h⟩
    · cases h
    · exact absurd h (h0 p hp)
    · exact absurd ho h
    · rcases h with ⟨h, _⟩ | ⟨h, _⟩ | ⟨news, h, _, hbig, _⟩
      · rw [newsR_nil] at h; cases h
      · rw [newsR_nil] at h
        simp at h
        subst h
        exact absurd (List.Perm.eq_nil hp.symm) hne
      · rw [newsR_nil] at h
        simp at h
        subst h
        have := hg.len
        simp at hbig
        omega
  · rw [newsR_nil] at hnw
    simp at hnw
    subst hnw
    have hris := ((risF_iff d 0).1 hg.ris).1
    have hlay := lay_free (g := ⟨key, [], 0, [], false⟩) (news := d) (S := emD) rfl (by show 0 + 1 < 100; omega) rfl (by show d.length ≤ 65536; exact hg.len) (by decide) (Nat.zero_le _) hR hR0
    obtain ⟨rfl, rfl, _⟩ := layR_free (by show 0 < 4; omega) hlay.1 hlay.2 hL
    refine ⟨rfl, ?_, fun x => ?_, rfl⟩
    · show (mergeM [] d).length = l.length
      rw [mergeM_len, ← hp.length_eq]
      simp
    · show lookP (mergeM [] d) x = lookP l x
      rw [mergeM_nil d hris]
      exact look_perm hris.once hp x
end Go.Proofs.YtdjodigimhgklaaGreatDoor

/- Plain: whatever is added to a memo on a disk that nobody cuts: it knows what it knew and the new pairs. -/
namespace Go.Proofs.YtdjodigimhgklaaGreatDoor
open Go.RowKit Go.Shelf Go.Maps

/-- a memo of a new disk that nobody cuts, behind k Adds that wrote -/
structure FreeM (k : Nat) (g : Me) (sz : Nat) (S : DG) : Prop where
  good : g.failed = false
  top : g.top ≤ k
  rl : g.runs.length ≤ 4
  runs : ∀ x ∈ g.runs, 0 < x ∧ x ≤ g.top
  nd : g.runs.Nodup
  cut : S.cut = false
  n : S.n ≤ 2 * k
  there : ∀ x ∈ g.runs, (S.f (nmB g.key x)).isSome = true
  fresh : ∀ x, g.top < x → x < 100 → S.f (nmB g.key x) = none
  jsz : (S.bs (nmB g.key 0)).length ≤ k * 200
  szle : sz ≤ (S.bs (nmB g.key 0)).length
  wr : S.wr ≤ k * 100000
  ris : Ris g.ps
  ok : PrOk g.ps
  p0 : ∀ p ∈ g.ps, p.1 ≠ 0
theorem freeM_new (key : Nat) : FreeM 0 ⟨key, [], 0, [], false⟩ 0 emD where
  good := rfl
  top := Nat.le_refl _
  rl := Nat.zero_le _
  runs := fun x h => by cases h
  nd := List.nodup_nil
  cut := rfl
  n := Nat.le_refl _
  there := fun x h => by cases h
  fresh := fun _ _ _ => rfl
  jsz := Nat.le_refl _
  szle := Nat.zero_le _
  wr := Nat.le_refl _
  ris := List.Pairwise.nil
  ok := fun p h => by cases h
  p0 := fun p h => by cases h
theorem rem_f (S : DG) (l x : List UInt8) : (S.done.rem l).f x = if x = l then none else S.f x := rfl
/-- run files that are there are taken away, all -/
theorem remS_free (key : Nat) : ∀ (l : List Nat) (S : DG), S.cut = false → l.Nodup → (∀ x ∈ l, x < 100 ∧ (S.f (nmB key x)).isSome = true) →
    (remS key S l).2 = 0 ∧ (remS key S l).1.cut = false ∧ (remS key S l).1.n ≤ S.n ∧ (remS key S l).1.wr = S.wr + l.length ∧ ∀ y, (remS key S l).1.f y = if y ∈ l.map (nmB key) then none else S.f y
  | [], S, hc, _, _ => ⟨rfl, hc, Nat.le_refl _, rfl, fun y => by simp [remS]⟩
  | n :: r, S, hc, hd, hl => by
    have hn := hl n (List.mem_cons_self ..)
    have hd' := List.nodup_cons.1 hd
    have hne : ¬ S.f (nmB key n) = none := fun e => by rw [e] at hn; cases hn.2
    have hr : S.remove (nmB key n) = (S.done.rem (nmB key n), 0) := by
      unfold DG.remove
      rw [if_neg hne, if_pos (by unfold DG.can; rw [hc]; rfl)]
    have hdn : S.done.n = S.n := rfl
    have hdf : S.done.f = S.f := rfl
    have hnn : (S.done.rem (nmB key n)).n ≤ S.n := by
      show (if (S.done.f (nmB key n)).isSome then S.done.n - 1 else S.done.n) ≤ S.n
      rw [hdn]; split <;> omega
    obtain ⟨h1, h2, h3, h4, h5⟩ := remS_free key r (S.done.rem (nmB key n)) (by show S.cut = false; exact hc) hd'.2 (fun x hx => by
      have hx' := hl x (List.mem_cons_of_mem _ hx)
      refine ⟨hx'.1, ?_⟩
      rw [rem_f, if_neg (fun e => hd'.1 ((nmB_num hx'.1 hn.1 e) ▸ hx))]
      exact hx'.2)
    unfold remS
    rw [hr, if_pos rfl]
    refine ⟨h1, h2, Nat.le_trans h3 hnn, ?_, fun y => ?_⟩
    · rw [h4]
      show S.wr + 1 + r.length = S.wr + (n :: r).length
      rw [List.length_cons]; omega
    · rw [h5, rem_f]
      simp only [List.map_cons, List.mem_cons]
      by_cases e1 : y ∈ r.map (nmB key)
      · simp [e1]
      · by_cases e2 : y = nmB key n <;> simp [e1, e2]
theorem layR_len (g : Me) (h : g.runs.length ≤ 4) : (layR g).length ≤ 4 := by
  unfold layR
  split
  · simp
  · rw [List.length_cons]; omega
theorem recR_small (g : Me) (h : g.runs.length ≤ 4) : (recB (encR (layR g))).length ≤ 200 ∧ recB (encR (layR g)) ≠ [] := by
  have h1 := recB_pos (encR (layR g))
  have h2 : (encR (layR g)).length ≤ 50 := by
    have e1 := numsB_len (layR g)
    have e2 := short_len (layR g).length
    have e3 := layR_len g h
    unfold encR
    rw [List.length_append]
    omega
  refine ⟨by omega, fun e => ?_⟩
  rw [e] at h1
  simp at h1
theorem layN_len (g : Me) (news : List Pr) : (layN g news).length ≤ g.ps.length + news.length := by
  unfold layN
  split
  · rw [mergeM_len]; exact Nat.le_refl _
  · omega
/-- what lay needs of such a memo -/
theorem FreeM.lay {k : Nat} {g : Me} {sz : Nat} {S : DG} (h : FreeM k g sz S) (hk : k < 40) (news : List Pr) (hn : g.ps.length + news.length ≤ 4000) :
    layS1 g news S = (S.freeApp (nmB g.key (g.top + 1)) (runB (layN g news)), 0) ∧ layS2 g news S = ((S.freeApp (nmB g.key (g.top + 1)) (runB (layN g news))).freeApp (nmB g.key 0) (recB (encR (layR g))), 0) ∧ S.bs (nmB g.key (g.top + 1)) = [] ∧ (runB (layN g news)).length ≤ 80000 := by
  have htop : g.top + 1 < 100 := by have := h.top; omega
  have hbs : S.bs (nmB g.key (g.top + 1)) = [] := by unfold DG.bs; rw [h.fresh _ (by omega) htop]; rfl
  have hr := recR_small g h.rl
  have hN := layN_len g news
  have hb := runB_len (layN g news)
  have hs := short_len (layN g news).length
  obtain ⟨h1, h2⟩ := lay_free (g := g) (news := news) (S := S) h.cut htop hbs (by omega) (by have := h.n; omega) (by have := h.jsz; omega) (by omega) hr.2
  exact ⟨h1, h2, hbs, by omega⟩
/-- what Add asks of its disk -/
theorem FreeM.hlay {k : Nat} {g : Me} {sz : Nat} {S : DG} (h : FreeM k g sz S) (hk : k < 40) (l : List Pr) (n : Nat) (hn : g.ps.length + n ≤ 4000) :
    ∀ news : List Pr, (∀ p ∈ news, p ∈ l) → news.length ≤ n → ((layS1 g news S).2 = 0 → ((layS1 g news S).1.bs (nmB g.key 0)).length ≤ 4194304 ∧ sz ≤ ((layS1 g news S).1.bs (nmB g.key 0)).length ∧ (layS1 g news S).1.n ≤ 256 ∧ (layS1 g news S).1.wr < 4000000000000000000) ∧
      ((layS2 g news S).2 = 0 → (layS2 g news S).1.wr < 4000000000000000000) := by
  intro news _ hl
  obtain ⟨h1, h2, h3, h4⟩ := h.lay hk news (by omega)
  have htop := h.top
  have hr := recR_small g h.rl
  have hj := h.jsz
  have hw := h.wr
  have hnn := h.n
  rw [h1, h2]
  refine ⟨fun _ => ⟨?_, ?_, ?_, ?_⟩, fun _ => ?_⟩
  · show ((S.freeApp _ _).bs _).length ≤ _
    rw [freeApp_bs, if_neg (fun e => by have := nmB_num (by omega) (by omega) e; omega)]
    omega
  · show sz ≤ ((S.freeApp _ _).bs _).length
    rw [freeApp_bs, if_neg (fun e => by have := nmB_num (by omega) (by omega) e; omega)]
    exact h.szle
  · show (S.freeApp _ _).n ≤ 256
    rw [freeApp_n]
    split <;> omega
  · show (S.freeApp _ _).wr < _
    rw [freeApp_wr]
    omega
  · show ((S.freeApp _ _).freeApp _ _).wr < _
    rw [freeApp_wr, freeApp_wr]
    omega
theorem look_ok {l : List Pr} (h : ∀ p ∈ l, p.1 ≠ 0) : lookP l 0 = none := (look_none l 0).2 h
/-- news of pairs that fit what is known -/
theorem newsR_fits (ps : List Pr) : ∀ (d acc : List Pr), (∀ p ∈ d, lookP ps p.1 = none ∨ lookP ps p.1 = some p.2) → newsR ps acc d = some (acc ++ d.filter fun p => (lookP ps p.1).isNone)
  | [], acc, _ => by simp [newsR]
  | p :: r, acc, h => by
    have hr := fun acc => newsR_fits ps r acc fun q hq => h q (List.mem_cons_of_mem _ hq)
    rcases h p (List.mem_cons_self ..) with e | e
    · have hs : newsS ps acc p = some (acc ++ [p]) := by unfold newsS; rw [e]
      rw [newsR, hs, Option.bind_some, hr, List.filter_cons_of_pos (by rw [e]; rfl)]
      simp
    · have hs : newsS ps acc p = some acc := by unfold newsS; rw [e]; simp
      rw [newsR, hs, Option.bind_some, hr, List.filter_cons_of_neg (by rw [e]; simp)]
/-- an Add of pairs that fit: all is known behind it -/
theorem FreeM.add {k : Nat} {g : Me} {sz : Nat} {S : DG} (h : FreeM k g sz S) (hk : k < 40) {l : List Pr} (hn : g.ps.length + l.length ≤ 4000) (h0 : ∀ p ∈ l, p.1 ≠ 0) (ho : Once l) (hfit : ∀ p ∈ l, lookP g.ps p.1 = none ∨ lookP g.ps p.1 = some p.2)
    {rs : List (List UInt8)} {jc : Bool} {er : Int} {g' : Me} {rs' : List (List UInt8)} {sz' : Nat} {jc' : Bool} {S' : DG} (hj : jc = false) (hR : AddR g l rs sz jc S er g' rs' sz' jc' S') :
    er = 0 ∧ jc' = false ∧ FreeM (k + 1) g' sz' S' ∧ g'.key = g.key ∧ g'.ps.length ≤ g.ps.length + l.length ∧ ∀ x, lookP g'.ps x = (lookP g.ps x).or (lookP l x) := by
  have hsame : ∀ {d : List Pr}, d.Perm l → (∀ p ∈ d, lookP g.ps p.1 ≠ none) → ∀ x, lookP g.ps x = (lookP g.ps x).or (lookP l x) := fun {d} hp hd x => by
    cases e : lookP g.ps x with
    | some y => rfl
    | none =>
      cases e2 : lookP l x with
      | none => rfl
      | some y =>
        have hm := look_mem e2
        exact absurd e (hd _ (hp.mem_iff.2 hm))
  have hfree : FreeM (k + 1) g sz S := ⟨h.good, Nat.le_succ_of_le h.top, h.rl, h.runs, h.nd, h.cut, Nat.le_trans h.n (by omega), h.there, h.fresh, Nat.le_trans h.jsz (Nat.mul_le_mul_right _ (Nat.le_succ k)), h.szle, Nat.le_trans h.wr (Nat.mul_le_mul_right _ (Nat.le_succ k)), h.ris, h.ok, h.p0⟩
  rcases hR with ⟨⟨rfl, rfl, rfl, rfl, rfl⟩, hc⟩ | ⟨_, _, _, d, news, g1, hg, hp, hnw, hn0, hlen, hL, rfl⟩
  · rcases hc with ⟨hc, _⟩ | ⟨_, ⟨p, hp, e⟩, _⟩ | ⟨_, _, e, _⟩ | ⟨_, _, _, d, hg, hp, hc⟩
    · rw [h.good] at hc; cases hc
    · exact absurd e (h0 p hp)
    · exact absurd ho e
    · have hdf : ∀ p ∈ d, lookP g'.ps p.1 = none ∨ lookP g'.ps p.1 = some p.2 := fun p hpd => hfit p (hp.mem_iff.1 hpd)
      have hnr := newsR_fits g'.ps d [] hdf
      rw [List.nil_append] at hnr
      rcases hc with ⟨e, _⟩ | ⟨e, e0⟩ | ⟨news, e, _, hbig, _⟩
      · rw [hnr] at e; cases e
      · rw [hnr] at e
        have hnil : d.filter (fun p => (lookP g'.ps p.1).isNone) = [] := Option.some.inj e
        exact ⟨e0, hj, hfree, rfl, by omega, hsame hp fun p hpd e' => by
          have := List.filter_eq_nil_iff.1 hnil p hpd
          rw [e'] at this
          exact this rfl⟩
      · rw [hnr] at e
        have hnews := Option.some.inj e
        have : news.length ≤ l.length := by rw [← hnews, ← hp.length_eq]; exact List.length_filter_le _ _
        omega
  · have hdf : ∀ p ∈ d, lookP g.ps p.1 = none ∨ lookP g.ps p.1 = some p.2 := fun p hpd => hfit p (hp.mem_iff.1 hpd)
    have hnr := newsR_fits g.ps d [] hdf
    rw [List.nil_append] at hnr
    rw [hnr] at hnw
    obtain rfl := Option.some.inj hnw
    have hdr := (risF_iff d 0).1 hg.ris
    have hnl : (d.filter fun p => (lookP g.ps p.1).isNone).length ≤ l.length := by rw [← hp.length_eq]; exact List.length_filter_le _ _
    have hnris : Ris (d.filter fun p => (lookP g.ps p.1).isNone) := hdr.1.filter _
    have hnno : ∀ p ∈ d.filter (fun p => (lookP g.ps p.1).isNone), lookP g.ps p.1 = none := fun p hpf => by
      have := (List.mem_filter.1 hpf).2
      cases e : lookP g.ps p.1 with
      | none => rfl
      | some y => rw [e] at this; cases this
    have hnok : PrOk (d.filter fun p => (lookP g.ps p.1).isNone) := fun p hpf => hg.ok p (List.mem_filter.1 hpf).1
    obtain ⟨h1, h2, h3, h4⟩ := h.lay hk _ (show g.ps.length + (d.filter fun p => (lookP g.ps p.1).isNone).length ≤ 4000 by omega)
    obtain ⟨S2, hS2⟩ : ∃ S2, S2 = (S.freeApp (nmB g.key (g.top + 1)) (runB (layN g (d.filter fun p => (lookP g.ps p.1).isNone)))).freeApp (nmB g.key 0) (recB (encR (layR g))) := ⟨_, rfl⟩
    have htop := h.top
    have hrec := recR_small g h.rl
    have hne0 : ∀ x, x < 100 → 0 < x → nmB g.key x ≠ nmB g.key 0 := fun x hx h0 e => by have := nmB_num hx (by omega) e; omega
    have hSf : ∀ y, S2.f y = if y = nmB g.key 0 then some (S.bs (nmB g.key 0) ++ recB (encR (layR g))) else if y = nmB g.key (g.top + 1) then some (runB (layN g (d.filter fun p => (lookP g.ps p.1).isNone))) else S.f y := fun y => by
      rw [hS2, freeApp_f, freeApp_f, freeApp_bs, h3, List.nil_append, if_neg (Ne.symm (hne0 (g.top + 1) (by omega) (by omega)))]
    have hSn : S2.n ≤ S.n + 2 := by
      rw [hS2, freeApp_n, freeApp_n]
      split <;> split <;> omega
    have hSw : S2.wr ≤ S.wr + 3000 := by
      rw [hS2, freeApp_wr, freeApp_wr]
      omega
    have hSc : S2.cut = false := by rw [hS2, freeApp_cut, freeApp_cut]; exact h.cut
    rw [← hS2] at h2
    unfold LayR at hL
    rw [h1, h2] at hL
    rcases hL with ⟨e, _⟩ | ⟨_, e, _⟩ | ⟨_, _, l', hperm, _, he, rfl, rfl, rfl, rfl, rfl⟩
    · exact absurd rfl e
    · exact absurd rfl e
    · have hol : ∀ x ∈ l', x ∈ g.runs := fun x hx => by
        have := hperm.mem_iff.1 hx
        unfold layO at this
        split at this
        · exact this
        · cases this
      have hond : l'.Nodup := by
        refine hperm.nodup_iff.2 ?_
        unfold layO
        split
        · exact h.nd
        · exact List.nodup_nil
      have holen : l'.length ≤ 4 := by
        rw [hperm.length_eq]
        unfold layO
        split
        · exact h.rl
        · exact Nat.zero_le _
      obtain ⟨r1, r2, r3, r4, r5⟩ := remS_free g.key l' S2 hSc hond fun x hx => by
        have hx' := h.runs x (hol x hx)
        refine ⟨by omega, ?_⟩
        rw [hSf, if_neg (hne0 x (by omega) hx'.1), if_neg (fun e => by have := nmB_num (by omega) (by omega) e; omega)]
        exact h.there x (hol x hx)
      have e0 : er = 0 := by rw [he]; exact r1
      subst e0
      have hj0 : ∀ y, y ∈ l'.map (nmB g.key) → ∃ x ∈ g.runs, y = nmB g.key x := fun y hy => by
        obtain ⟨x, hx, rfl⟩ := List.mem_map.1 hy
        exact ⟨x, hol x hx, rfl⟩
      have hfj : (remS g.key S2 l').1.f (nmB g.key 0) = some (S.bs (nmB g.key 0) ++ recB (encR (layR g))) := by
        rw [r5, if_neg (fun hy => by
          obtain ⟨x, hx, e⟩ := hj0 _ hy
          have hx' := h.runs x hx
          exact hne0 x (by omega) hx'.1 e.symm), hSf, if_pos rfl]
      refine ⟨rfl, rfl, ?_, rfl, ?_, fun x => ?_⟩
      · exact {
          good := rfl
          top := by show g.top + 1 ≤ k + 1; omega
          rl := layR_len g h.rl
          runs := fun x hx => by
            have hx : x ∈ layR g := hx
            show 0 < x ∧ x ≤ g.top + 1
            unfold layR at hx
            rcases List.mem_cons.1 hx with rfl | hx
            · omega
            · split at hx
              · cases hx
              · have := h.runs x hx; omega
          nd := by
            show (layR g).Nodup
            unfold layR
            refine List.nodup_cons.2 ⟨fun hx => ?_, ?_⟩
            · split at hx
              · cases hx
              · have := h.runs _ hx; omega
            · split
              · exact List.nodup_nil
              · exact h.nd
          cut := r2
          n := by
            show (remS g.key S2 l').1.n ≤ 2 * (k + 1)
            have := h.n; omega
          there := fun x hx => by
            have hx : x ∈ layR g := hx
            show ((remS g.key S2 l').1.f (nmB g.key x)).isSome = true
            have hmem : x = g.top + 1 ∨ (x ∈ g.runs ∧ g.runs.length ≠ 4) := by
              unfold layR at hx
              rcases List.mem_cons.1 hx with rfl | hx
              · exact .inl rfl
              · split at hx
                · cases hx
                · exact .inr ⟨hx, by assumption⟩
            rw [r5, if_neg (fun hy => by
              obtain ⟨z, hz, e⟩ := List.mem_map.1 hy
              have hz1 := h.runs z (hol z hz)
              have hz2 := hperm.mem_iff.1 hz
              rcases hmem with rfl | ⟨hm, h4'⟩
              · have := nmB_num (by omega) (by omega) e; omega
              · unfold layO at hz2
                rw [if_neg h4'] at hz2
                cases hz2)]
            rw [hSf]
            rcases hmem with rfl | ⟨hm, _⟩
            · rw [if_neg (hne0 _ (by omega) (by omega)), if_pos rfl]; rfl
            · have hx' := h.runs x hm
              rw [if_neg (hne0 x (by omega) hx'.1)]
              split
              · rfl
              · exact h.there x hm
          fresh := fun x hx hx2 => by
            have hx : g.top + 1 < x := hx
            show (remS g.key S2 l').1.f (nmB g.key x) = none
            rw [r5]
            split
            · rfl
            · rw [hSf, if_neg (hne0 x hx2 (by omega)), if_neg (fun e => by have := nmB_num hx2 (by omega) e; omega)]
              exact h.fresh x (by omega) hx2
          jsz := by
            show ((remS g.key S2 l').1.bs (nmB g.key 0)).length ≤ _
            unfold DG.bs at *
            rw [hfj, Option.getD_some, List.length_append]
            have := h.jsz
            unfold DG.bs at this
            omega
          szle := by
            show _ ≤ ((remS g.key S2 l').1.bs (nmB g.key 0)).length
            have := h.szle
            unfold DG.bs at *
            rw [hfj, Option.getD_some, List.length_append]
            omega
          wr := by
            show (remS g.key S2 l').1.wr ≤ _
            rw [r4]
            have := h.wr
            omega
          ris := mergeM_ris _ _ h.ris hnris hnno
          ok := mergeM_ok h.ok hnok
          p0 := fun p hpm => by
            rcases (mergeM_mem g.ps _ p).1 hpm with hpm | hpm
            · exact h.p0 p hpm
            · have := hdr.2 p (List.mem_filter.1 hpm).1
              omega }
      · show (mergeM g.ps _).length ≤ _
        rw [mergeM_len]
        omega
      · show lookP (mergeM g.ps _) x = _
        rw [mergeM_look h.ris hnris hnno]
        cases e : lookP g.ps x with
        | some y => rfl
        | none =>
          rw [Option.none_or, Option.none_or]
          have hl : lookP l x = lookP d x := (look_perm (Ris.once hdr.1) hp x).symm
          rw [hl]
          cases e2 : lookP d x with
          | none =>
            refine (look_none _ _).2 fun q hq => ?_
            exact (look_none d x).1 e2 q (List.mem_filter.1 hq).1
          | some y =>
            have hm := look_mem e2
            exact ris_mem_look hnris (List.mem_filter.2 ⟨hm, by rw [e]; rfl⟩)
end Go.Proofs.YtdjodigimhgklaaGreatDoor
