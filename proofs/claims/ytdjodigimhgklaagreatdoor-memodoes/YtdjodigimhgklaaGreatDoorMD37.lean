import Derived.Test.YtdjodigimhgklaaGreatDoorMD36
import Derived.Test.YtdjodigimhgklaaGreatDoorMD22
/- Plain: what Open and Add answer of a memo's disk that may be cut. -/
namespace Go.Proofs.YtdjodigimhgklaaGreatDoor
open Go.RowKit Go.Shelf Go.Maps

theorem CDisk.op {key : Nat} {S : DG} {rs : List (List UInt8)} {runs : List Nat} {top : Nat} {P : List Pr} {c : Bool} {k : Nat} (h : CDisk key S rs runs top P c k) (hk : k < 60) : CDisk key (opS key S) rs runs top P false (k + 1) := by
  obtain ⟨_, h1 | h1 | h1⟩ := h.opens hk
  · have : opS key S = S := by unfold opS; rw [h1.2]
    rw [this]; exact h.dirty.more (Nat.le_succ k)
  · have : opS key S = S := h1.2.2
    rw [this]; exact h.dirty.more (Nat.le_succ k)
  · exact h1.2.1
theorem CDisk.names {key : Nat} {S : DG} {rs : List (List UInt8)} {runs : List Nat} {top : Nat} {P : List Pr} {c : Bool} {k : Nat} (h : CDisk key S rs runs top P c k) (hk : k < 60) {ns : List (List UInt8)} (hL : S.Lists ns) : ∀ y ∈ ns, ∃ x, x < 100 ∧ y = nmB key x := fun y hy => by
  obtain ⟨x, hx, e⟩ := h.only y ((DG.Lists.sub hL).2 y |>.1 hy)
  have := h.tp
  exact ⟨x, by omega, e⟩
/-- Open asks no more than such a disk has -/
theorem CDisk.calls {key : Nat} {S : DG} {rs : List (List UInt8)} {runs : List Nat} {top : Nat} {P : List Pr} {c : Bool} {k : Nat} (h : CDisk key S rs runs top P c k) (hk : k < 50) (hk0 : key ≠ 0) (hkey : key < 18446744073709551616) (w : World) (d : Nat) (G : Nat → Prop) (hd : IsDisk w d S G) :
    Calls Tryz.prog 10 #[.pointer (some ⟨d, 0, none⟩), .int .u64 (key : Int)] w (OpenA w d key S G) := by
  have ho := h.op (by omega)
  have htp := h.tp
  refine yopen_any w d key S G hd hk0 hkey (by have := h.jsz; omega) (by have := h.wr; omega) (by have := h.n; omega) (fun x hx => ?_) (by have := ho.n; omega) (by have := ho.wr; omega) ?_ ?_ ?_
  · obtain ⟨y, hy, rfl⟩ := ho.only x hx
    exact Nat.le_trans (nmB_len key y (by omega)) (by decide)
  · rw [h.recO]
    intro x hx
    have := h.rg x hx
    show x < 100
    omega
  · rw [h.recO]
    exact ho.small
  · rw [h.recO]
    intro ns hL
    refine ⟨?_, fun x hx => ((left_mem hkey ns (ho.names (by omega) hL) x).1 hx).2.2.1⟩
    have h1 := leftL_len key runs ns
    have h2 := hL.len
    have := ho.n
    show (leftL key runs ns).length ≤ 1000
    omega
/-- what Open answers of such a disk: it is cut, or the memo is there, and the disk clean -/
def OpenC (w : World) (d key : Nat) (S : DG) (G : Nat → Prop) (rs : List (List UInt8)) (runs : List Nat) (top : Nat) (P : List Pr) (c : Bool) (k : Nat) (e : Ending) (w' : World) : Prop :=
  ∃ S', S'.cut = S.cut ∧ Turn G w w' ∧
    ((e = .returned (.tuple #[.pointer none, .int .i64 6]) ∧ S.cut = true ∧ CDisk key S' rs runs top P false k ∧ IsDisk w' d S' (grow G w w')) ∨
     (∃ m j, e = .returned (.tuple #[.pointer (some ⟨m, 0, none⟩), .int .i64 0]) ∧ CDisk key S' rs runs top P true k ∧ MS (grow G w w') w' m d j ⟨key, runs, top, P, false⟩ rs (fileB rs).length false S' ∧ (c = true → S' = S)))
theorem CDisk.openC {key : Nat} {S : DG} {rs : List (List UInt8)} {runs : List Nat} {top : Nat} {P : List Pr} {c : Bool} {k : Nat} (h : CDisk key S rs runs top P c k) (hk : k < 50) (hkey : key < 18446744073709551616) {w w' : World} {d : Nat} {G : Nat → Prop} {e : Ending} (hA : OpenA w d key S G e w') :
    OpenC w d key S G rs runs top P c (k + 2) e w' := by
  have ho := h.op (by omega)
  have hp := h.parse
  have hr := h.recO
  obtain ⟨hc, hcase⟩ := h.opens (by omega)
  obtain ⟨hT, hA⟩ := hA
  rw [hp] at hA
  have hbad : (S.opened (nmB key 0)).2 = 0 ∨ ((S.opened (nmB key 0)).2 = 6 ∧ S.cut = true) := by
    rcases hcase with ⟨_, e⟩ | ⟨e, e2, _⟩ | ⟨e, _⟩
    · rw [e]; exact .inl rfl
    · exact .inr ⟨e, e2⟩
    · exact .inl e
  have hjs : (S.opened (nmB key 0)).2 = 0 → (opS key S).bs (nmB key 0) = fileB rs := fun h0 => by
    rcases hcase with ⟨e1, e⟩ | ⟨e, _, _⟩ | ⟨e, _, e2, _⟩
    · have e3 : opS key S = S := by unfold opS; rw [e]
      rw [e3]
      obtain ⟨t, p, hb, _, _, ht⟩ := h.jb
      rw [hb, ht e1]; simp
    · rw [e] at h0; cases h0
    · exact e2
  rcases hA with ⟨h1, rfl, hd⟩ | ⟨h1, h2, _⟩ | ⟨h1, h2, P', ns, l', hP, hL, hperm, _, hrem⟩
  · rcases hbad with e | ⟨e, hcut⟩
    · exact absurd e h1
    · rw [e]
      exact ⟨opS key S, hc, hT, .inl ⟨rfl, hcut, ho.more (by omega), hd⟩⟩
  · rw [hr] at h2
    rcases h2 with e | e
    · cases e
    · rw [ho.rr] at e; cases e
  · rw [hr] at hP hperm
    have e0 := ho.rr
    simp only at hP hperm
    rw [e0] at hP
    obtain rfl := Option.some.inj hP
    have hns := ho.names (by omega) hL
    have hmem : ∀ x, x ∈ l' ↔ 0 < x ∧ x ∉ runs ∧ x < 100 ∧ nmB key x ∈ ns := fun x => by rw [hperm.mem_iff]; exact left_mem hkey ns hns x
    have hnd : l'.Nodup := hperm.nodup_iff.2 (left_nodup hkey ns hns (DG.Lists.sub hL).1)
    have hll : l'.length ≤ 1000 := by
      have h3 := hperm.length_eq
      have h4 := leftL_len key runs ns
      have h5 := hL.len
      have := ho.n
      omega
    obtain ⟨r1, r2, r3, r4⟩ := ho.removes (by omega) hnd (fun x hx => by
      obtain ⟨m1, m2, m3, m4⟩ := (hmem x).1 hx
      exact ⟨m1, m3, m2, (DG.Lists.sub hL).2 _ |>.1 m4⟩) hll
    rcases hrem with ⟨e1, rfl, hd⟩ | ⟨e1, m, j, rfl, hM⟩
    · rcases r4 with ⟨e, _⟩ | ⟨e, hcut⟩
      · exact absurd e e1
      · rw [e]
        exact ⟨_, r1.trans hc, hT, .inl ⟨rfl, by rw [← hc]; exact hcut, r2, hd⟩⟩
    · rw [hr] at hM
      refine ⟨_, r1.trans hc, hT, .inr ⟨m, j, rfl, ?_, hM, fun hcl => ?_⟩⟩
      · rcases r4 with ⟨_, hn, hsub⟩ | ⟨e, _⟩
        · exact { r2 with
            jb := ⟨0, [], by rw [r3, hjs h1]; simp, by have := (recB_pos []).1; omega, by simp, fun _ => rfl⟩
            fresh := fun _ x hx hx2 hxr => by
              by_cases hi : nmB key x ∈ ns
              · exact hn x ((hmem x).2 ⟨hx, hxr, hx2, hi⟩)
              · have : (opS key S).f (nmB key x) = none := by
                  cases e : (opS key S).f (nmB key x) with
                  | none => rfl
                  | some _ => exact absurd ((DG.Lists.sub hL).2 _ |>.2 (by rw [e]; rfl)) hi
                rcases hsub (nmB key x) with e | e
                · rw [e, this]
                · exact e }
        · rw [e] at e1; cases e1
      · subst hcl
        have hS : opS key S = S := by
          rcases hcase with ⟨_, e⟩ | ⟨e, _⟩ | ⟨_, _, e2, _⟩
          · unfold opS; rw [e]
          · rw [e] at h1; cases h1
          · obtain ⟨t, p, hb, _, _, ht⟩ := h.jb
            have hb2 : S.bs (nmB key 0) = fileB rs := by rw [hb, ht rfl]; simp
            unfold opS DG.opened
            rw [hp]
            simp only [Bool.false_eq_true, if_false]
            rw [if_neg (by rw [hb2]; omega)]
        have hl0 : l' = [] := List.eq_nil_iff_forall_not_mem.2 fun x hx => by
          obtain ⟨m1, m2, m3, m4⟩ := (hmem x).1 hx
          have h5 := (DG.Lists.sub hL).2 _ |>.1 m4
          rw [hS, h.fresh rfl x m1 m3 m2] at h5
          cases h5
        rw [hl0, hS]
        rfl
theorem foldl_max (a : Nat) : ∀ l : List Nat, (∀ x ∈ l, x ≤ a) → l.foldl max a = a
  | [], _ => rfl
  | x :: r, h => by
    have hx := h x (List.mem_cons_self ..)
    rw [List.foldl_cons, Nat.max_eq_left hx]
    exact foldl_max a r fun y hy => h y (List.mem_cons_of_mem _ hy)
/-- the disk behind the run's file and the record -/
theorem CDisk.laid {key : Nat} {S : DG} {rs : List (List UInt8)} {runs : List Nat} {top : Nat} {P : List Pr} {k : Nat} (h : CDisk key S rs runs top P true k) (hk : k < 50) {news : List Pr} (hr : Ris news) (hok : PrOk news) (h0 : ∀ p ∈ news, p.1 ≠ 0) (hdj : ∀ p ∈ news, lookP P p.1 = none) (hl : news.length ≤ 40)
    {S2 : DG} (hj : S2.bs (nmB key 0) = fileB rs ++ recB (encR (layR ⟨key, runs, top, P, false⟩))) (hf : S2.bs (nmB key (top + 1)) = runB (layN ⟨key, runs, top, P, false⟩ news)) (ho : ∀ y, y ≠ nmB key 0 → y ≠ nmB key (top + 1) → S2.f y = S.f y) (hn : S2.n ≤ S.n + 2) (hw : S2.wr ≤ S.wr + 90000) :
    CDisk key S2 (rs ++ [encR (layR ⟨key, runs, top, P, false⟩)]) (layR ⟨key, runs, top, P, false⟩) (top + 1) (mergeM P news) false (k + 1) := by
  obtain ⟨gr, gok, gp0⟩ := h.good
  have htp := h.tp
  have hlr : ∀ x ∈ layR ⟨key, runs, top, P, false⟩, 0 < x ∧ x ≤ top + 1 := fun x hx => by
    unfold layR at hx
    rcases List.mem_cons.1 hx with rfl | hx
    · exact ⟨Nat.succ_pos _, Nat.le_refl _⟩
    · split at hx
      · cases hx
      · have := h.rg x hx; omega
  have hlnd : (layR ⟨key, runs, top, P, false⟩).Nodup := by
    unfold layR
    refine List.nodup_cons.2 ⟨fun hx => ?_, ?_⟩
    · split at hx
      · cases hx
      · have := h.rg _ hx; simp only at this; omega
    · split
      · exact List.nodup_nil
      · exact h.nd
  have hrec := recR_small ⟨key, runs, top, P, false⟩ h.rl
  have hml := mergeM_len P news
  have hlen := h.len
  have hother : ∀ x ∈ runs, S2.bs (nmB key x) = S.bs (nmB key x) := fun x hx => by
    have := h.rg x hx
    unfold DG.bs
    rw [ho _ (nm_apart (by omega) (by omega) (by omega)) (nm_apart (by omega) (by omega) (by omega))]
  have hnews0 : ∀ m : List Pr, Ris m → mergeM [] m = m := fun m hm => ris_ext _ _ (mergeM_ris [] m List.Pairwise.nil hm fun p _ => rfl) hm (mergeM_nil m hm)
  have hNg : GoodV (layN ⟨key, runs, top, P, false⟩ news) := by
    unfold layN
    split
    · exact ris_good (mergeM_ris P news gr hr hdj) (mergeM_ok gok hok) (fun p hp => ((mergeM_mem P news p).1 hp).elim (gp0 p) (h0 p)) (by rw [hml]; omega)
    · exact ris_good hr hok h0 (by omega)
  obtain ⟨t, p, hjb, _, _, ht⟩ := h.jb
  have hjS : S.bs (nmB key 0) = fileB rs := by rw [hjb, ht rfl]; simp
  exact {
    jb := ⟨0, [], by rw [hj, fileB_snoc]; simp, by have := (recB_pos []).1; omega, by simp, fun _ => rfl⟩
    all := fun r hr => by
      rcases List.mem_append.1 hr with hr | hr
      · exact h.all r hr
      · rw [List.mem_singleton.1 hr]
        have h1 := recB_pos (encR (layR ⟨key, runs, top, P, false⟩))
        have := hrec.1
        omega
    rcs := by
      unfold recF
      rw [List.foldl_append]
      have e : List.foldl recS ([], 0, true) rs = (runs, top, true) := h.rcs
      rw [e]
      simp only [List.foldl_cons, List.foldl_nil, recS]
      rw [decR_encR _ (layR_len _ h.rl) (fun x hx => by have := hlr x hx; omega) hlnd]
      refine Prod.ext rfl (Prod.ext ?_ rfl)
      show (layR _).foldl max top = top + 1
      unfold layR
      rw [List.foldl_cons, Nat.max_eq_right (Nat.le_succ top)]
      refine foldl_max _ _ fun x hx => ?_
      split at hx
      · cases hx
      · have := h.rg x hx; show x ≤ top + 1; omega
    rl := layR_len _ h.rl
    nd := hlnd
    rg := hlr
    tp := by omega
    rr := by
      by_cases h4 : runs.length = 4
      · have e1 : layR ⟨key, runs, top, P, false⟩ = [top + 1] := by unfold layR; rw [if_pos h4]
        have e2 : layN ⟨key, runs, top, P, false⟩ news = mergeM P news := by unfold layN; rw [if_pos h4]
        rw [e2] at hf hNg
        rw [e1, rrL_make (by rw [hf]; exact pairs_runB hNg) fun p _ => rfl]
        show some (mergeM [] (mergeM P news)) = _
        rw [hnews0 _ hNg.rs]
      · have e1 : layR ⟨key, runs, top, P, false⟩ = (top + 1) :: runs := by unfold layR; rw [if_neg h4]
        have e2 : layN ⟨key, runs, top, P, false⟩ news = news := by unfold layN; rw [if_neg h4]
        rw [e2] at hf hNg
        rw [e1, rrL_make (by rw [hf]; exact pairs_runB hNg) fun p _ => rfl, hnews0 _ hr]
        have hrr : rrL key S2 runs [] = some P := by rw [rrL_congr runs [] hother]; exact h.rr
        obtain ⟨P', h1, h2, h3⟩ := rrL_more (nw := news) runs [] news P hrr List.Pairwise.nil hr (fun x => by rw [show lookP [] x = none from rfl, Option.none_or]) (fun x hx => by
          cases e : lookP news x with
          | none => exact absurd e hx
          | some y => exact hdj _ (look_mem e))
        rw [h1]
        congr 1
        refine ris_ext _ _ h2 (mergeM_ris P news gr hr hdj) fun x => ?_
        rw [h3, mergeM_look gr hr hdj]
    only := fun y hy => by
      by_cases e1 : y = nmB key 0
      · exact ⟨0, by omega, e1⟩
      · by_cases e2 : y = nmB key (top + 1)
        · exact ⟨top + 1, by omega, e2⟩
        · rw [ho y e1 e2] at hy
          obtain ⟨x, hx, e⟩ := h.only y hy
          exact ⟨x, by omega, e⟩
    fresh := fun e => by cases e
    n := by have := h.n; omega
    wr := by have := h.wr; omega
    jsz := by
      rw [hj, List.length_append]
      have := h.jsz
      rw [hjS] at this
      have := hrec.1
      omega
    len := by rw [hml]; omega }
end Go.Proofs.YtdjodigimhgklaaGreatDoor

/- Plain: what Add leaves of a memo's disk that may be cut. -/
namespace Go.Proofs.YtdjodigimhgklaaGreatDoor
open Go.RowKit Go.Shelf Go.Maps

/-- what became of a memo by an Add that wrote, or tried to: done, or cut -/
def AddW (key : Nat) (S : DG) (P : List Pr) (k : Nat) (l : List Pr) (er : Int) (g' : Me) (rs' : List (List UInt8)) (sz' : Nat) (jc' : Bool) (S' : DG) : Prop :=
  ∃ d news rs2 runs2 top2 P2, GoodV d ∧ d.Perm l ∧ Once l ∧ (∀ p ∈ l, p.1 ≠ 0) ∧ newsR P [] d = some news ∧ news ≠ [] ∧ (P2 = P ∨ P2 = mergeM P news) ∧
    ((er = 0 ∧ P2 = mergeM P news ∧ CDisk key S' rs2 runs2 top2 P2 true k ∧ g' = ⟨key, runs2, top2, P2, false⟩ ∧ rs' = rs2 ∧ sz' = (fileB rs2).length ∧ jc' = false) ∨
     (er = 6 ∧ S.cut = true ∧ CDisk key S' rs2 runs2 top2 P2 false k ∧ g'.ps = P2 ∧ g'.failed = true ∧ g'.key = key))
theorem newsR_sub {P d news : List Pr} (h : newsR P [] d = some news) : news.Sublist d ∧ ∀ p ∈ news, lookP P p.1 = none := by
  obtain ⟨f, hf, hs, hn⟩ := newsR_facts P d [] news h
  rw [List.nil_append] at hf
  subst hf
  exact ⟨hs, hn⟩
theorem CDisk.jS {key : Nat} {S : DG} {rs : List (List UInt8)} {runs : List Nat} {top : Nat} {P : List Pr} {k : Nat} (h : CDisk key S rs runs top P true k) : S.bs (nmB key 0) = fileB rs := by
  obtain ⟨t, p, hjb, _, _, ht⟩ := h.jb
  rw [hjb, ht rfl]; simp
theorem CDisk.run0 {key : Nat} {S : DG} {rs : List (List UInt8)} {runs : List Nat} {top : Nat} {P : List Pr} {k : Nat} (h : CDisk key S rs runs top P true k) (hk : k < 50) : S.f (nmB key (top + 1)) = none := by
  have := h.tp
  exact h.fresh rfl (top + 1) (Nat.succ_pos _) (by omega) fun hx => by have := (h.rg _ hx).2; omega
theorem CDisk.layN_len {key : Nat} {S : DG} {rs : List (List UInt8)} {runs : List Nat} {top : Nat} {P : List Pr} {c : Bool} {k : Nat} (h : CDisk key S rs runs top P c k) (hk : k < 50) {news : List Pr} (hl : news.length ≤ 40) : (runB (layN ⟨key, runs, top, P, false⟩ news)).length ≤ 80000 := by
  have h1 := Go.Proofs.YtdjodigimhgklaaGreatDoor.layN_len ⟨key, runs, top, P, false⟩ news
  have h2 := runB_len (layN ⟨key, runs, top, P, false⟩ news)
  have h3 := short_len (layN ⟨key, runs, top, P, false⟩ news).length
  have h4 := h.len
  simp only at h1
  omega
/-- the run's file on such a disk -/
theorem CDisk.lay1 {key : Nat} {S : DG} {rs : List (List UInt8)} {runs : List Nat} {top : Nat} {P : List Pr} {k : Nat} (h : CDisk key S rs runs top P true k) (hk : k < 50) {news : List Pr} (hl : news.length ≤ 40) :
    (((layS1 ⟨key, runs, top, P, false⟩ news S).2 = 0 ∧ (layS1 ⟨key, runs, top, P, false⟩ news S).1.bs (nmB key (top + 1)) = runB (layN ⟨key, runs, top, P, false⟩ news)) ∨ ((layS1 ⟨key, runs, top, P, false⟩ news S).2 = 6 ∧ S.cut = true)) ∧
      (layS1 ⟨key, runs, top, P, false⟩ news S).1.cut = S.cut ∧ (layS1 ⟨key, runs, top, P, false⟩ news S).1.n ≤ S.n + 1 ∧ (layS1 ⟨key, runs, top, P, false⟩ news S).1.wr ≤ S.wr + 80000 ∧ ∀ y, y ≠ nmB key (top + 1) → (layS1 ⟨key, runs, top, P, false⟩ news S).1.f y = S.f y := by
  have htp := h.tp
  have hN := h.layN_len hk hl
  have hb0 : S.bs (nmB key (top + 1)) = [] := by unfold DG.bs; rw [h.run0 hk]; rfl
  obtain ⟨h1, h2, h3, h4, h5⟩ := app_cut (S := S) (nm := nmB key (top + 1)) (l := runB (layN ⟨key, runs, top, P, false⟩ news)) (nmB_ok _ _ (by omega)) (run_ne _) (by rw [hb0]; simp only [List.length_nil]; omega) (by have := h.n; omega)
  refine ⟨h1.imp (fun e => ⟨e.1, by rw [hb0, List.nil_append] at e; exact e.2.1⟩) (fun e => ⟨e.1, e.2.1⟩), h2, h3, Nat.le_trans h4 (by omega), h5⟩
/-- .. and the record -/
theorem CDisk.lay2 {key : Nat} {S : DG} {rs : List (List UInt8)} {runs : List Nat} {top : Nat} {P : List Pr} {k : Nat} (h : CDisk key S rs runs top P true k) (hk : k < 50) {news : List Pr} (hl : news.length ≤ 40) :
    (((layS2 ⟨key, runs, top, P, false⟩ news S).2 = 0 ∧ (layS2 ⟨key, runs, top, P, false⟩ news S).1.bs (nmB key 0) = fileB rs ++ recB (encR (layR ⟨key, runs, top, P, false⟩))) ∨
      ((layS2 ⟨key, runs, top, P, false⟩ news S).2 = 6 ∧ S.cut = true ∧ ∃ t, t < (recB (encR (layR ⟨key, runs, top, P, false⟩))).length ∧ (layS2 ⟨key, runs, top, P, false⟩ news S).1.bs (nmB key 0) = fileB rs ++ (recB (encR (layR ⟨key, runs, top, P, false⟩))).take t)) ∧
      (layS2 ⟨key, runs, top, P, false⟩ news S).1.cut = S.cut ∧ (layS2 ⟨key, runs, top, P, false⟩ news S).1.n ≤ S.n + 2 ∧ (layS2 ⟨key, runs, top, P, false⟩ news S).1.wr ≤ S.wr + 80200 ∧
      (layS2 ⟨key, runs, top, P, false⟩ news S).1.bs (nmB key (top + 1)) = (layS1 ⟨key, runs, top, P, false⟩ news S).1.bs (nmB key (top + 1)) ∧ ∀ y, y ≠ nmB key 0 → y ≠ nmB key (top + 1) → (layS2 ⟨key, runs, top, P, false⟩ news S).1.f y = S.f y := by
  have htp := h.tp
  obtain ⟨_, g2, g3, g4, g5⟩ := h.lay1 hk hl
  have hr := recR_small ⟨key, runs, top, P, false⟩ h.rl
  have hne := nm_apart (key := key) (x := 0) (y := top + 1) (by omega) (by omega) (by omega)
  have hb0 : (layS1 ⟨key, runs, top, P, false⟩ news S).1.bs (nmB key 0) = fileB rs := by
    rw [← h.jS]; unfold DG.bs; rw [g5 _ hne]
  have hjsz := h.jsz
  rw [h.jS] at hjsz
  obtain ⟨h1, h2, h3, h4, h5⟩ := app_cut (S := (layS1 ⟨key, runs, top, P, false⟩ news S).1) (nm := nmB key 0) (l := recB (encR (layR ⟨key, runs, top, P, false⟩))) (nmB_ok _ _ (by omega)) hr.2 (by rw [hb0]; have := hr.1; omega) (by have := h.n; omega)
  rw [hb0, g2] at h1
  refine ⟨h1.imp (fun e => ⟨e.1, e.2.1⟩) id, h2.trans g2, Nat.le_trans h3 (by omega), Nat.le_trans h4 (by have := hr.1; omega), ?_, fun y e1 e2 => ?_⟩
  · show ((layS2 _ _ _).1.f _).getD [] = _
    rw [show (layS2 ⟨key, runs, top, P, false⟩ news S).1.f (nmB key (top + 1)) = _ from h5 _ (Ne.symm hne)]
    rfl
  · rw [show (layS2 ⟨key, runs, top, P, false⟩ news S).1.f y = _ from h5 _ e1]
    exact g5 y e2
/-- what lay asks of its disk -/
theorem CDisk.hlay {key : Nat} {S : DG} {rs : List (List UInt8)} {runs : List Nat} {top : Nat} {P : List Pr} {k : Nat} (h : CDisk key S rs runs top P true k) (hk : k < 50) (l : List Pr) (n : Nat) (hn : n ≤ 40) :
    ∀ news : List Pr, (∀ p ∈ news, p ∈ l) → news.length ≤ n → ((layS1 ⟨key, runs, top, P, false⟩ news S).2 = 0 → ((layS1 ⟨key, runs, top, P, false⟩ news S).1.bs (nmB key 0)).length ≤ 4194304 ∧ (fileB rs).length ≤ ((layS1 ⟨key, runs, top, P, false⟩ news S).1.bs (nmB key 0)).length ∧ (layS1 ⟨key, runs, top, P, false⟩ news S).1.n ≤ 256 ∧ (layS1 ⟨key, runs, top, P, false⟩ news S).1.wr < 4000000000000000000) ∧
      ((layS2 ⟨key, runs, top, P, false⟩ news S).2 = 0 → (layS2 ⟨key, runs, top, P, false⟩ news S).1.wr < 4000000000000000000) := by
  intro news _ hl
  have htp := h.tp
  obtain ⟨_, g2, g3, g4, g5⟩ := h.lay1 hk (news := news) (by omega)
  obtain ⟨_, _, _, q4, _⟩ := h.lay2 hk (news := news) (by omega)
  have hne := nm_apart (key := key) (x := 0) (y := top + 1) (by omega) (by omega) (by omega)
  have hb0 : (layS1 ⟨key, runs, top, P, false⟩ news S).1.bs (nmB key 0) = fileB rs := by
    rw [← h.jS]; unfold DG.bs; rw [g5 _ hne]
  have hjsz := h.jsz
  rw [h.jS] at hjsz
  have := h.n
  have := h.wr
  rw [hb0]
  exact ⟨fun _ => ⟨by omega, Nat.le_refl _, by omega, by omega⟩, fun _ => by omega⟩
/-- what became of a memo by an Add: nothing, or what it wrote -/
theorem CDisk.addR {key : Nat} {S : DG} {rs : List (List UInt8)} {runs : List Nat} {top : Nat} {P : List Pr} {k : Nat} (h : CDisk key S rs runs top P true k) (hk : k < 50) {l : List Pr} (hl : l.length ≤ 40) {er : Int} {g' : Me} {rs' : List (List UInt8)} {sz' : Nat} {jc' : Bool} {S' : DG}
    (hR : AddR ⟨key, runs, top, P, false⟩ l rs (fileB rs).length false S er g' rs' sz' jc' S') :
    S'.cut = S.cut ∧ ((er ≠ 6 ∧ g' = ⟨key, runs, top, P, false⟩ ∧ rs' = rs ∧ sz' = (fileB rs).length ∧ jc' = false ∧ S' = S) ∨ AddW key S P (k + 2) l er g' rs' sz' jc' S') := by
  have htp := h.tp
  rcases hR with ⟨⟨rfl, rfl, rfl, rfl, rfl⟩, hc⟩ | ⟨_, h0, ho, d, news, g1, hg, hp, hnw, hn0, _, hL, rfl⟩
  · refine ⟨rfl, .inl ⟨?_, rfl, rfl, rfl, rfl, rfl⟩⟩
    rcases hc with ⟨hc, _⟩ | ⟨_, _, e⟩ | ⟨_, _, _, e⟩ | ⟨_, _, _, d, _, _, ⟨_, e⟩ | ⟨_, e⟩ | ⟨_, _, _, _, e⟩⟩
    · cases hc
    all_goals (rw [e]; decide)
  · obtain ⟨hsub, hdj⟩ := newsR_sub hnw
    have hnl : news.length ≤ 40 := by have := hsub.length_le; rw [hp.length_eq] at this; omega
    have hnr : Ris news := hg.rs.sublist hsub
    have hnok : PrOk news := fun p hpn => hg.ok p (hsub.subset hpn)
    have hn0' : ∀ p ∈ news, p.1 ≠ 0 := fun p hpn => hg.p0 p (hsub.subset hpn)
    obtain ⟨a1, a2, a3, a4, a5⟩ := h.lay1 hk hnl
    obtain ⟨b1, b2, b3, b4, b6, b5⟩ := h.lay2 hk hnl
    have hne := nm_apart (key := key) (x := 0) (y := top + 1) (by omega) (by omega) (by omega)
    have hrun : ∀ x ∈ runs, nmB key x ≠ nmB key 0 ∧ nmB key x ≠ nmB key (top + 1) := fun x hx => by
      have := h.rg x hx
      exact ⟨nm_apart (by omega) (by omega) (by omega), nm_apart (by omega) (by omega) (by omega)⟩
    have honly : ∀ S2 : DG, (∀ y, y ≠ nmB key 0 → y ≠ nmB key (top + 1) → S2.f y = S.f y) → ∀ y, (S2.f y).isSome = true → ∃ x, x ≤ top + 1 ∧ y = nmB key x := fun S2 hS y hy => by
      by_cases e1 : y = nmB key 0
      · exact ⟨0, by omega, e1⟩
      · by_cases e2 : y = nmB key (top + 1)
        · exact ⟨top + 1, by omega, e2⟩
        · rw [hS y e1 e2] at hy
          exact h.only y hy
    have hrr : ∀ S2 : DG, (∀ y, y ≠ nmB key 0 → y ≠ nmB key (top + 1) → S2.f y = S.f y) → rrL key S2 runs [] = some P := fun S2 hS => by
      rw [rrL_congr runs [] fun x hx => ?_]
      · exact h.rr
      · unfold DG.bs
        rw [hS _ (hrun x hx).1 (hrun x hx).2]
    have hrec := recR_small ⟨key, runs, top, P, false⟩ h.rl
    have hjsz := h.jsz
    have hn := h.n
    have hwr := h.wr
    rw [h.jS] at hjsz
    rcases hL with ⟨e1, e2, rfl, rfl, rfl, rfl, rfl⟩ | ⟨e1, e2, e3, rfl, rfl, rfl, rfl, rfl⟩ | ⟨e1, e2, l', hperm, _, e3, rfl, rfl, rfl, rfl, rfl⟩
    · rcases a1 with ⟨e, _⟩ | ⟨e, hcut⟩
      · exact absurd e e1
      · rw [e] at e2
        subst e2
        refine ⟨a2, .inr ⟨d, news, rs', runs, top, P, hg, hp, ho, h0, hnw, hn0, .inl rfl, .inr ⟨rfl, hcut, ?_, rfl, rfl, rfl⟩⟩⟩
        have hb0 : (layS1 ⟨key, runs, top, P, false⟩ news S).1.bs (nmB key 0) = fileB rs' := by
          rw [← h.jS]; unfold DG.bs; rw [a5 _ hne]
        exact { h.dirty.more (show k ≤ k + 2 by omega) with
          jb := ⟨0, [], by rw [hb0]; simp, by have := (recB_pos []).1; omega, by simp, fun _ => rfl⟩
          rr := hrr _ fun y _ e => a5 y e
          only := honly _ fun y _ e => a5 y e
          fresh := fun e => by cases e
          n := by omega
          wr := by omega
          jsz := by rw [hb0]; omega }
    · rcases b1 with ⟨e, _⟩ | ⟨e, hcut, t, ht, hb⟩
      · exact absurd e e2
      · rw [e] at e3
        subst e3
        refine ⟨b2, .inr ⟨d, news, rs', runs, top, P, hg, hp, ho, h0, hnw, hn0, .inl rfl, .inr ⟨rfl, hcut, ?_, rfl, rfl, rfl⟩⟩⟩
        exact { h.dirty.more (show k ≤ k + 2 by omega) with
          jb := ⟨t, encR (layR ⟨key, runs, top, P, false⟩), hb, ht, by have h1 := recB_pos (encR (layR ⟨key, runs, top, P, false⟩)); have := hrec.1; omega, fun e => by cases e⟩
          rr := hrr _ b5
          only := honly _ b5
          fresh := fun e => by cases e
          n := by omega
          wr := by omega
          jsz := by rw [hb, List.length_append, List.length_take]; have := hrec.1; omega }
    · have hb : (layS2 ⟨key, runs, top, P, false⟩ news S).1.bs (nmB key 0) = fileB rs ++ recB (encR (layR ⟨key, runs, top, P, false⟩)) := by
        rcases b1 with ⟨_, hb⟩ | ⟨e, _⟩
        · exact hb
        · rw [e] at e2; cases e2
      have hf : (layS2 ⟨key, runs, top, P, false⟩ news S).1.bs (nmB key (top + 1)) = runB (layN ⟨key, runs, top, P, false⟩ news) := by
        rw [b6]
        rcases a1 with ⟨_, hb⟩ | ⟨e, _⟩
        · exact hb
        · rw [e] at e1; cases e1
      have hC := h.laid hk hnr hnok hn0' hdj hnl hb hf b5 b3 (by omega)
      have hol : ∀ x, x ∈ l' ↔ x ∈ runs ∧ runs.length = 4 := fun x => by
        rw [hperm.mem_iff]
        unfold layO
        by_cases h4 : runs.length = 4
        · rw [if_pos h4]; simp [h4]
        · rw [if_neg h4]; simp [h4]
      have hnd : l'.Nodup := hperm.nodup_iff.2 (by unfold layO; split; exact h.nd; exact List.nodup_nil)
      have hll : l'.length ≤ 1000 := by
        rw [hperm.length_eq]
        unfold layO
        split
        · have := h.rl; show runs.length ≤ 1000; omega
        · simp
      have hnotin : ∀ x ∈ runs, runs.length = 4 → x ∉ layR ⟨key, runs, top, P, false⟩ := fun x hx h4 hm => by
        have := h.rg x hx
        unfold layR at hm
        rw [if_pos h4] at hm
        have := List.mem_singleton.1 hm
        simp only at this
        omega
      obtain ⟨r1, r2, r3, r4⟩ := hC.removes (by omega) hnd (fun x hx => by
        obtain ⟨m1, m2⟩ := (hol x).1 hx
        have := h.rg x m1
        exact ⟨this.1, by omega, hnotin x m1 m2, by rw [b5 _ (hrun x m1).1 (hrun x m1).2]; exact h.there x m1⟩) hll
      refine ⟨r1.trans b2, .inr ⟨d, news, rs ++ [encR (layR ⟨key, runs, top, P, false⟩)], layR ⟨key, runs, top, P, false⟩, top + 1, mergeM P news, hg, hp, ho, h0, hnw, hn0, .inr rfl, ?_⟩⟩
      rcases r4 with ⟨e, hrm, hsub2⟩ | ⟨e, hcut⟩
      · refine .inl ⟨e3.trans e, rfl, ?_, ?_, rfl, ?_, rfl⟩
        · exact { r2 with
            jb := ⟨0, [], by rw [r3, hb, fileB_snoc]; simp, by have := (recB_pos []).1; omega, by simp, fun _ => rfl⟩
            fresh := fun _ x hx hx2 hxr => by
              have hx1 : x ≠ top + 1 := fun e => hxr (by rw [e]; unfold layR; exact List.mem_cons_self ..)
              by_cases hm : x ∈ runs
              · by_cases h4 : runs.length = 4
                · exact hrm x ((hol x).2 ⟨hm, h4⟩)
                · refine absurd ?_ hxr
                  unfold layR
                  rw [if_neg h4]
                  exact List.mem_cons_of_mem _ hm
              · have h1 := h.fresh rfl x hx hx2 hm
                have h2 := b5 (nmB key x) (nm_apart hx2 (by omega) (by omega)) (nm_apart hx2 (by omega) hx1)
                rcases hsub2 (nmB key x) with e4 | e4
                · rw [e4, h2, h1]
                · exact e4 }
        · rw [e3, e]; rfl
        · rw [fileB_snoc, List.length_append]
      · refine .inr ⟨e3.trans e, by rw [← b2]; exact hcut, r2, rfl, ?_, rfl⟩
        rw [e3, e]; rfl
end Go.Proofs.YtdjodigimhgklaaGreatDoor

/- Small walks for the law MemoCut: Add of a memo that was cut, the law's cut, pairs of unlike length. -/
namespace Go.Proofs.YtdjodigimhgklaaGreatDoor
open Go.RowKit Go.Shelf Go.Maps

attribute [local go_sem] Oper.semAt_some

set_option maxRecDepth 100000 in
set_option maxHeartbeats 4000000 in
theorem add_failed (w : World) (m d j : Nat) (g : Me) (vr : Value) (pa : Option Addr) (pc : Nat) (F : Nat → Prop) (h : MeAt w m d j g vr pa pc F) (hf : g.failed = true) (v : Value) :
    Calls Tryz.prog 13 #[.pointer (some ⟨m, 0, none⟩), v] w fun e w' => e = .returned (.int .i64 6) ∧ Below w.heap.size w w' := by
  obtain ⟨_, _, _, _, _, _, c6⟩ := h.cells
  rw [hf] at c6
  clear h
  go_enter Tryz.func13, Tryz.ntmps13
  go_wp2_with fail
  go_ret
  exact ⟨rfl, Below.refl _ _⟩
set_option maxRecDepth 100000 in
set_option maxHeartbeats 4000000 in
theorem ypairs_len (w : World) (a b : Option Addr) (n m c c2 : Nat) (h : n ≠ m) :
    Calls Tryz.prog 15 #[.slice a n c, .slice b m c2] w fun e w' => e = .returned (.bool false) ∧ Below w.heap.size w w' := by
  have i5 : ((n : Int) != (m : Int)) = true := by simp; omega
  go_enter Tryz.func15, Tryz.ntmps15
  go_wp2_with fail
  go_ret
  exact ⟨rfl, Below.refl _ _⟩
set_option maxRecDepth 100000 in
set_option maxHeartbeats 4000000 in
theorem ycut_any (w : World) (a : Option Addr) (n c : Nat) (hc : n ≤ c) :
    Calls Tryz.prog 11 #[.slice a n c] w fun e w' => e = .returned (.slice a (min n 40) c) ∧ w' = w := by
  have im : min (n : Int) 40 = ((min n 40 : Nat) : Int) := by omega
  have i1 : (0 : Int) ≤ ((min n 40 : Nat) : Int) := by omega
  have i2 : ((min n 40 : Nat) : Int) ≤ (c : Int) := by omega
  go_enter Tryz.func11, Tryz.ntmps11
  go_wp2_with fail
  go_ret
  exact ⟨rfl, rfl⟩
end Go.Proofs.YtdjodigimhgklaaGreatDoor
