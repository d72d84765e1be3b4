import Derived.Test.YtdjodigimhgklaaGreatDoorMC43
import Derived.Test.YtdjodigimhgklaaGreatDoorMC28
/- Small walks for the law MemoCut: Add of a memo that was cut, the law's cut, pairs of unlike length. -/
namespace Go.Proofs.YtdjodigimhgklaaGreatDoor
open Go.RowKit Go.Shelf Go.Maps

attribute [local go_sem] Oper.semAt_some

set_option maxRecDepth 100000 in
set_option maxHeartbeats 4000000 in
theorem add_failed (w : World) (m d j : Nat) (g : Me) (vr : Value) (pa : Option Addr) (pc : Nat) (F : Nat → Prop) (h : MeAt w m d j g vr pa pc F) (hf : g.failed = true) (v : Value) :
    Calls Tryz.prog 13 #[.pointer (some ⟨m, 0, none⟩), v] w fun e w' => e = .returned (.int .i64 6) ∧ Below w.heap.size w w' := by
  obtain ⟨_, _, _, _, _, _, c6⟩ := h.cells
  rw [hf] at c6
  clear h
  go_enter Tryz.func13, Tryz.ntmps13
  go_wp2_with fail
  go_ret
  exact ⟨rfl, Below.refl _ _⟩
set_option maxRecDepth 100000 in
set_option maxHeartbeats 4000000 in
theorem ypairs_len (w : World) (a b : Option Addr) (n m c c2 : Nat) (h : n ≠ m) :
    Calls Tryz.prog 15 #[.slice a n c, .slice b m c2] w fun e w' => e = .returned (.bool false) ∧ Below w.heap.size w w' := by
  have i5 : ((n : Int) != (m : Int)) = true := by simp; omega
  go_enter Tryz.func15, Tryz.ntmps15
  go_wp2_with fail
  go_ret
  exact ⟨rfl, Below.refl _ _⟩
set_option maxRecDepth 100000 in
set_option maxHeartbeats 4000000 in
theorem ycut_any (w : World) (a : Option Addr) (n c : Nat) (hc : n ≤ c) :
    Calls Tryz.prog 11 #[.slice a n c] w fun e w' => e = .returned (.slice a (min n 40) c) ∧ w' = w := by
  have im : min (n : Int) 40 = ((min n 40 : Nat) : Int) := by omega
  have i1 : (0 : Int) ≤ ((min n 40 : Nat) : Int) := by omega
  have i2 : ((min n 40 : Nat) : Int) ≤ (c : Int) := by omega
  go_enter Tryz.func11, Tryz.ntmps11
  go_wp2_with fail
  go_ret
  exact ⟨rfl, rfl⟩
end Go.Proofs.YtdjodigimhgklaaGreatDoor

/- The law MemoCut: what stands in memory while the disk is worked at; plain: an Add again, and how many files there are. -/
namespace Go.Proofs.YtdjodigimhgklaaGreatDoor
open Go.RowKit Go.Shelf Go.Maps

/-- pairs that lie apart from what turns -/
def Pv (w : World) (Q : Nat → Prop) (a : Option Addr) (n c : Nat) (l : List Pr) : Prop := PrV w a n c l ∧ (0 < n → ∀ x, a = some x → x.block < w.heap.size ∧ ¬ Q x.block)
theorem Pv.turn {w w' : World} {Q : Nat → Prop} {a : Option Addr} {n c : Nat} {l : List Pr} (h : Pv w Q a n c l) (hT : Turn Q w w') : Pv w' (grow Q w w') a n c l :=
  ⟨h.1.blocks fun h0 x e => hT.block _ (h.2 h0 x e).1 (h.2 h0 x e).2, fun h0 x e => ⟨Nat.lt_of_lt_of_le (h.2 h0 x e).1 hT.size, fun hg => hg.elim (h.2 h0 x e).2 fun hg => by have := (h.2 h0 x e).1; omega⟩⟩
theorem Pv.below {w w' : World} {Q : Nat → Prop} {a : Option Addr} {n c : Nat} {l : List Pr} (h : Pv w Q a n c l) (hB : Below w.heap.size w w') : Pv w' Q a n c l :=
  ⟨h.1.kept hB, fun h0 x e => ⟨Nat.lt_of_lt_of_le (h.2 h0 x e).1 hB.size, (h.2 h0 x e).2⟩⟩
theorem Pv.sub {w : World} {Q Q' : Nat → Prop} {a : Option Addr} {n c : Nat} {l : List Pr} (h : Pv w Q a n c l) (hq : ∀ k, Q' k → Q k) : Pv w Q' a n c l := ⟨h.1, fun h0 x e => ⟨(h.2 h0 x e).1, fun hk => (h.2 h0 x e).2 (hq _ hk)⟩⟩
theorem pv_own {w : World} {B : Nat} {v : Value} {l : List Pr} {Q : Nat → Prop} (h : w.ownsRow B 39 2 v l.length (prCells l)) (hQ : ∀ k, Q k → k < B) : ∃ ad c, v = .slice ad l.length c ∧ Pv w Q ad l.length c l := by
  obtain ⟨ad, c, rfl, hp, _⟩ := own_prv h
  exact ⟨ad, c, rfl, hp, fun h0 x e => by
    obtain ⟨h1, h2⟩ := h.lt x.block (by rw [e]; rfl)
    exact ⟨h2, fun hk => by have := hQ _ hk; omega⟩⟩
/-- a memo that lies apart from what turns -/
def MeP (w : World) (Q : Nat → Prop) (m d : Nat) (P : List Pr) (b : Bool) : Prop := ∃ j g vr pa pc F, MeAt w m d j g vr pa pc F ∧ g.ps = P ∧ g.failed = b ∧ ∀ k, F k → ¬ Q k
theorem MeP.turn {w w' : World} {Q : Nat → Prop} {m d : Nat} {P : List Pr} {b : Bool} (h : MeP w Q m d P b) (hT : Turn Q w w') : MeP w' (grow Q w w') m d P b := by
  obtain ⟨j, g, vr, pa, pc, F, h1, h2, h3, h4⟩ := h
  exact ⟨j, g, vr, pa, pc, F, h1.turn hT h4, h2, h3, fun k hk hg => hg.elim (h4 k hk) fun hg => by have := h1.lt k hk; omega⟩
theorem MeP.below {w w' : World} {Q : Nat → Prop} {m d : Nat} {P : List Pr} {b : Bool} (h : MeP w Q m d P b) (hB : Below w.heap.size w w') : MeP w' Q m d P b := by
  obtain ⟨j, g, vr, pa, pc, F, h1, h2, h3, h4⟩ := h
  exact ⟨j, g, vr, pa, pc, F, h1.below hB, h2, h3, h4⟩
theorem MeP.sub {w : World} {Q Q' : Nat → Prop} {m d : Nat} {P : List Pr} {b : Bool} (h : MeP w Q m d P b) (hq : ∀ k, Q' k → Q k) : MeP w Q' m d P b := by
  obtain ⟨j, g, vr, pa, pc, F, h1, h2, h3, h4⟩ := h
  exact ⟨j, g, vr, pa, pc, F, h1, h2, h3, fun k hk hg => h4 k hk (hq k hg)⟩
/-- what stands beside the disk behind an Add that was cut -/
structure CB (w wr : World) (Q : Nat → Prop) (m d : Nat) (P P2 l : List Pr) (aa : Option Addr) (ac : Nat) (la : Option Addr) (lc : Nat) : Prop where
  below : Below w.heap.size w wr
  lo : ∀ k, Q k → w.heap.size ≤ k
  lt : ∀ k, Q k → k < wr.heap.size
  old : MeP wr Q m d P2 true
  ahead : Pv wr Q aa P.length ac P
  l : Pv wr Q la l.length lc l
theorem CB.turn {w wr W : World} {Q : Nat → Prop} {m d : Nat} {P P2 l : List Pr} {aa : Option Addr} {ac : Nat} {la : Option Addr} {lc : Nat} (h : CB w wr Q m d P P2 l aa ac la lc) (hT : Turn Q wr W) : CB w W (grow Q wr W) m d P P2 l aa ac la lc where
  below := h.below.trans (hT.below h.below.size h.lo)
  lo := fun k hk => hk.elim (h.lo k) fun hk => Nat.le_trans h.below.size hk.1
  lt := fun k hk => hk.elim (fun hk => Nat.lt_of_lt_of_le (h.lt k hk) hT.size) fun hk => hk.2
  old := h.old.turn hT
  ahead := h.ahead.turn hT
  l := h.l.turn hT
theorem CB.kept {w wr W : World} {Q : Nat → Prop} {m d : Nat} {P P2 l : List Pr} {aa : Option Addr} {ac : Nat} {la : Option Addr} {lc : Nat} (h : CB w wr Q m d P P2 l aa ac la lc) (hB : Below wr.heap.size wr W) : CB w W Q m d P P2 l aa ac la lc :=
  ⟨h.below.trans (hB.mono h.below.size), h.lo, fun k hk => Nat.lt_of_lt_of_le (h.lt k hk) hB.size, h.old.below hB, h.ahead.below hB, h.l.below hB⟩
theorem CB.sub {w wr : World} {Q Q' : Nat → Prop} {m d : Nat} {P P2 l : List Pr} {aa : Option Addr} {ac : Nat} {la : Option Addr} {lc : Nat} (h : CB w wr Q m d P P2 l aa ac la lc) (hq : ∀ k, Q' k → Q k) : CB w wr Q' m d P P2 l aa ac la lc :=
  ⟨h.below, fun k hk => h.lo k (hq k hk), fun k hk => h.lt k (hq k hk), h.old.sub hq, h.ahead.sub hq, h.l.sub hq⟩
/-- a memo and its disk, taken apart: the disk may turn while the memo stays -/
theorem MS.parts {Q : Nat → Prop} {w : World} {m d j : Nat} {g : Me} {rs : List (List UInt8)} {sz : Nat} {jc : Bool} {S : DG} (h : MS Q w m d j g rs sz jc S) :
    ∃ G, IsDisk w d S G ∧ (∀ k, G k → Q k) ∧ ∀ {W : World} {S' : DG} {G3 : Nat → Prop}, Turn G w W → IsDisk W d S' G3 → (∀ k, G3 k → grow G w W k) → MS (grow Q w W) W m d j g rs sz jc S' := by
  obtain ⟨vr, pa, pc, FM, FJ, G, h1, h2, h3, h4, h5, h6⟩ := h
  refine ⟨G, h3, fun k hk => h6 k (.inr (.inr hk)), fun {W S' G3} hT hd hg => ?_⟩
  have hgrow : ∀ k, G3 k → G k ∨ w.heap.size ≤ k := fun k hk => (hg k hk).imp id fun h => h.1
  exact ⟨vr, pa, pc, FM, FJ, G3, h1.turn hT fun k hk => (h4 k hk).2, h2.kept hT.size fun k hk => hT.block k (h2.lt k hk) (h5 k hk), hd, fun k hk => ⟨(h4 k hk).1, fun hk' => (hgrow k hk').elim (h4 k hk).2 fun e => by have := h1.lt k hk; omega⟩,
    fun k hk hk' => (hgrow k hk').elim (h5 k hk) fun e => by have := h2.lt k hk; omega, fun k hk => by
      rcases hk with hk | hk | hk
      · exact .inl (h6 k (.inl hk))
      · exact .inl (h6 k (.inr (.inl hk)))
      · exact (hg k hk).imp (fun e => h6 k (.inr (.inr e))) id⟩
theorem MS.me {Q : Nat → Prop} {w : World} {m d j : Nat} {g : Me} {rs : List (List UInt8)} {sz : Nat} {jc : Bool} {S : DG} (h : MS Q w m d j g rs sz jc S) : ∃ vr pa pc F, MeAt w m d j g vr pa pc F := by
  obtain ⟨vr, pa, pc, FM, _, _, h1, _⟩ := h
  exact ⟨vr, pa, pc, FM, h1⟩
/-! ### plain -/
theorem newsR_eq {P d news : List Pr} (h : newsR P [] d = some news) : news = d.filter fun p => (lookP P p.1).isNone := by
  have := newsR_fits P d [] (newsR_conv P d [] news h)
  rw [h, List.nil_append] at this
  exact Option.some.inj this
/-- an Add again on a disk that nobody cuts: all is known behind it -/
theorem CDisk.again {key : Nat} {S : DG} {rs : List (List UInt8)} {runs : List Nat} {top : Nat} {P P2 : List Pr} {k : Nat} (h : CDisk key S rs runs top P2 true k) (hk : k < 50) (hc : S.cut = false) {l d news : List Pr} (hl : l.length ≤ 40) (hPr : Ris P) (hg : GoodV d) (hp : d.Perm l) (ho : Once l) (h0 : ∀ p ∈ l, p.1 ≠ 0)
    (hnw : newsR P [] d = some news) (hn0 : news ≠ []) (hP : P2 = P ∨ P2 = mergeM P news) {er : Int} {g' : Me} {rs' : List (List UInt8)} {sz' : Nat} {jc' : Bool} {S' : DG} (hR : AddR ⟨key, runs, top, P2, false⟩ l rs (fileB rs).length false S er g' rs' sz' jc' S') :
    er = 0 ∧ ∃ rs3 runs3 top3 P3, CDisk key S' rs3 runs3 top3 P3 true (k + 2) ∧ g' = ⟨key, runs3, top3, P3, false⟩ ∧ (P2 = mergeM P news → P3 = P2) ∧ (∀ p ∈ l, lookP P3 p.1 = some p.2) ∧ P3 ≠ [] := by
  obtain ⟨hsub, hdj⟩ := newsR_sub hnw
  have hconv := newsR_conv P d [] news hnw
  have heq := newsR_eq hnw
  have hmrg : P2 = mergeM P news → ∀ p ∈ d, lookP P2 p.1 = some p.2 := fun e p hp => by
    rw [e, mergeM_look hPr (hg.rs.sublist hsub) hdj]
    rcases hconv p hp with e2 | e2
    · have : p ∈ news := by rw [heq]; exact List.mem_filter.2 ⟨hp, by rw [e2]; rfl⟩
      rw [e2, Option.none_or]
      exact ris_mem_look (hg.rs.sublist hsub) this
    · rw [e2]; rfl
  have hfit : ∀ p ∈ l, lookP P2 p.1 = none ∨ lookP P2 p.1 = some p.2 := fun p hpl => by
    have hpd := hp.mem_iff.2 hpl
    rcases hP with e | e
    · rw [e]; exact hconv p hpd
    · exact .inr (hmrg e p hpd)
  have hlne : l ≠ [] := fun e => by
    subst e
    have := hp.eq_nil
    subst this
    exact hn0 (List.eq_nil_of_length_eq_zero (by have := hsub.length_le; simpa using this))
  have hne : ∀ P3 : List Pr, (∀ p ∈ l, lookP P3 p.1 = some p.2) → P3 ≠ [] := fun P3 h3 e => by
    obtain ⟨p, hpl⟩ := List.exists_mem_of_ne_nil l hlne
    have := h3 p hpl
    rw [e] at this
    cases this
  have hlen := h.len
  obtain ⟨_, hcase⟩ := h.addR hk hl hR
  rcases hcase with ⟨he6, rfl, rfl, rfl, rfl, rfl⟩ | ⟨d', news', rs2, runs2, top2, P3, hg', hp', _, _, hnw', hn0', _, hW⟩
  · have h00 : er = 0 ∧ ∀ p ∈ l, lookP P2 p.1 = some p.2 := by
      rcases hR with ⟨_, ⟨e, _⟩ | ⟨_, ⟨p, hpl, e⟩, _⟩ | ⟨_, _, e, _⟩ | ⟨_, _, _, d', hg', hp', ⟨e, _⟩ | ⟨e, e0⟩ | ⟨nw, e, _, hbig, _⟩⟩⟩ | ⟨_, _, _, d', nw, g1, hg', hp', e, hn1, _, _, hg1⟩
      · cases e
      · exact absurd e (h0 p hpl)
      · exact absurd ho e
      · have := newsR_fits P2 d' [] fun p hpd => hfit p (hp'.mem_iff.1 hpd)
        simp only at e
        rw [e] at this; cases this
      · have e3 := newsR_eq e
        refine ⟨e0, fun p hpl => ?_⟩
        rcases hfit p hpl with e4 | e4
        · have : p ∈ ([] : List Pr) := by rw [e3]; exact List.mem_filter.2 ⟨hp'.mem_iff.2 hpl, by simp only; rw [e4]; rfl⟩
          cases this
        · exact e4
      · have e3 := newsR_eq e
        have : nw.length ≤ l.length := by rw [e3, ← hp'.length_eq]; exact List.length_filter_le _ _
        simp only at hbig
        omega
      · exfalso
        have hfl : false = decide (er ≠ 0) := congrArg Me.failed hg1
        have her : er = 0 := by
          by_cases h : er = 0
          · exact h
          · rw [decide_eq_true h] at hfl; cases hfl
        have hps : P2 = g1.ps := congrArg Me.ps hg1
        rename_i hL
        rcases hL with ⟨e1, e2, _⟩ | ⟨_, e1, e2, _⟩ | ⟨_, _, _, _, _, _, e2, _⟩
        · exact e1 (e2 ▸ her)
        · exact e1 (e2 ▸ her)
        · rw [e2] at hps
          have := congrArg List.length hps
          have h5 : (layG ⟨key, runs, top, P2, false⟩ nw).ps = mergeM P2 nw := rfl
          rw [h5, mergeM_len] at this
          exact hn1 (List.eq_nil_of_length_eq_zero (by omega))
    exact ⟨h00.1, rs', runs, top, P2, h.more (by omega), rfl, fun _ => rfl, h00.2, hne _ h00.2⟩
  · rcases hW with ⟨rfl, rfl, hC, rfl, rfl, rfl, rfl⟩ | ⟨_, hcut, _⟩
    · obtain ⟨hsub', hdj'⟩ := newsR_sub hnw'
      have heq' := newsR_eq hnw'
      have hgd := h.good
      have hlook : ∀ p ∈ l, lookP (mergeM P2 news') p.1 = some p.2 := fun p hpl => by
        rw [mergeM_look hgd.1 (hg'.rs.sublist hsub') hdj']
        rcases hfit p hpl with e | e
        · have : p ∈ news' := by rw [heq']; exact List.mem_filter.2 ⟨hp'.mem_iff.2 hpl, by rw [e]; rfl⟩
          rw [e, Option.none_or]
          exact ris_mem_look (hg'.rs.sublist hsub') this
        · rw [e]; rfl
      refine ⟨rfl, _, _, _, _, hC, rfl, fun e => ?_, hlook, hne _ hlook⟩
      exfalso
      refine hn0' ?_
      rw [heq']
      refine List.filter_eq_nil_iff.2 fun p hpd hx => ?_
      rw [hmrg e p (hp.mem_iff.2 (hp'.mem_iff.1 hpd))] at hx
      cases hx
    · rw [hc] at hcut; cases hcut
/-- how many files there are -/
theorem CDisk.count {key : Nat} {S : DG} {rs : List (List UInt8)} {runs : List Nat} {top : Nat} {P : List Pr} {k : Nat} (h : CDisk key S rs runs top P true k) (hk : k < 60) (hP : P ≠ []) {ns : List (List UInt8)} (hL : S.Lists ns) : ns.length = runs.length + 1 := by
  have htp := h.tp
  have hruns : runs ≠ [] := fun e => by
    have := h.rr
    rw [e] at this
    exact hP (Option.some.inj this).symm
  have hrs : rs ≠ [] := fun e => by
    have := h.rcs
    rw [e] at this
    exact hruns (congrArg Prod.fst this).symm
  have hj : (S.f (nmB key 0)).isSome = true := by
    cases e : S.f (nmB key 0) with
    | some _ => rfl
    | none =>
      have h1 : S.bs (nmB key 0) = [] := by unfold DG.bs; rw [e]; rfl
      rw [h.jS] at h1
      cases rs with
      | nil => exact absurd rfl hrs
      | cons r rs =>
        have h2 : (fileB (r :: rs)).length = (recB r).length + (fileB rs).length := by simp [fileB]
        have h3 := (recB_pos r).1
        rw [h1] at h2
        simp at h2
        omega
  obtain ⟨hnd, hmem⟩ := DG.Lists.sub hL
  have hperm : ns.Perm ((0 :: runs).map (nmB key)) := by
    refine (List.perm_ext_iff_of_nodup hnd ?_).2 fun y => ?_
    · have hb : ∀ x ∈ (0 :: runs : List Nat), x < 100 := fun x hx => by
        rcases List.mem_cons.1 hx with rfl | hx
        · omega
        · have := (h.rg x hx).2; omega
      have hnd0 : (0 :: runs : List Nat).Nodup := List.nodup_cons.2 ⟨fun h0 => by have := (h.rg 0 h0).1; omega, h.nd⟩
      rw [List.Nodup, List.pairwise_map]
      exact List.Pairwise.imp_of_mem (fun {a b} ha hb' hne e => hne (nmB_num (hb a ha) (hb b hb') e)) hnd0
    · rw [hmem]
      constructor
      · intro hy
        obtain ⟨x, hx, rfl⟩ := h.only y hy
        refine List.mem_map.2 ⟨x, ?_, rfl⟩
        by_cases h0 : x = 0
        · rw [h0]; exact List.mem_cons_self ..
        · by_cases hr : x ∈ runs
          · exact List.mem_cons_of_mem _ hr
          · rw [h.fresh rfl x (by omega) (by omega) hr] at hy; cases hy
      · intro hy
        obtain ⟨x, hx, rfl⟩ := List.mem_map.1 hy
        rcases List.mem_cons.1 hx with rfl | hx
        · exact hj
        · exact h.there x hx
  rw [hperm.length_eq]
  simp
end Go.Proofs.YtdjodigimhgklaaGreatDoor
