import Derived.Test.YtdjodigimhgklaaGreatDoorMD37
import Derived.Test.YtdjodigimhgklaaGreatDoorMD35
/- The law MemoCut: what stands in memory while the disk is worked at; plain: an Add again, and how many files there are. -/
namespace Go.Proofs.YtdjodigimhgklaaGreatDoor
open Go.RowKit Go.Shelf Go.Maps

/-- pairs that lie apart from what turns -/
def Pv (w : World) (Q : Nat → Prop) (a : Option Addr) (n c : Nat) (l : List Pr) : Prop := PrV w a n c l ∧ (0 < n → ∀ x, a = some x → x.block < w.heap.size ∧ ¬ Q x.block)
theorem Pv.turn {w w' : World} {Q : Nat → Prop} {a : Option Addr} {n c : Nat} {l : List Pr} (h : Pv w Q a n c l) (hT : Turn Q w w') : Pv w' (grow Q w w') a n c l :=
  ⟨h.1.blocks fun h0 x e => hT.block _ (h.2 h0 x e).1 (h.2 h0 x e).2, fun h0 x e => ⟨Nat.lt_of_lt_of_le (h.2 h0 x e).1 hT.size, fun hg => hg.elim (h.2 h0 x e).2 fun hg => by have := (h.2 h0 x e).1; omega⟩⟩
theorem Pv.below {w w' : World} {Q : Nat → Prop} {a : Option Addr} {n c : Nat} {l : List Pr} (h : Pv w Q a n c l) (hB : Below w.heap.size w w') : Pv w' Q a n c l :=
  ⟨h.1.kept hB, fun h0 x e => ⟨Nat.lt_of_lt_of_le (h.2 h0 x e).1 hB.size, (h.2 h0 x e).2⟩⟩
theorem Pv.sub {w : World} {Q Q' : Nat → Prop} {a : Option Addr} {n c : Nat} {l : List Pr} (h : Pv w Q a n c l) (hq : ∀ k, Q' k → Q k) : Pv w Q' a n c l := ⟨h.1, fun h0 x e => ⟨(h.2 h0 x e).1, fun hk => (h.2 h0 x e).2 (hq _ hk)⟩⟩
theorem pv_own {w : World} {B : Nat} {v : Value} {l : List Pr} {Q : Nat → Prop} (h : w.ownsRow B 39 2 v l.length (prCells l)) (hQ : ∀ k, Q k → k < B) : ∃ ad c, v = .slice ad l.length c ∧ Pv w Q ad l.length c l := by
  obtain ⟨ad, c, rfl, hp, _⟩ := own_prv h
  exact ⟨ad, c, rfl, hp, fun h0 x e => by
    obtain ⟨h1, h2⟩ := h.lt x.block (by rw [e]; rfl)
    exact ⟨h2, fun hk => by have := hQ _ hk; omega⟩⟩
/-- a memo that lies apart from what turns -/
def MeP (w : World) (Q : Nat → Prop) (m d : Nat) (P : List Pr) (b : Bool) : Prop := ∃ j g vr pa pc F, MeAt w m d j g vr pa pc F ∧ g.ps = P ∧ g.failed = b ∧ ∀ k, F k → ¬ Q k
theorem MeP.turn {w w' : World} {Q : Nat → Prop} {m d : Nat} {P : List Pr} {b : Bool} (h : MeP w Q m d P b) (hT : Turn Q w w') : MeP w' (grow Q w w') m d P b := by
  obtain ⟨j, g, vr, pa, pc, F, h1, h2, h3, h4⟩ := h
  exact ⟨j, g, vr, pa, pc, F, h1.turn hT h4, h2, h3, fun k hk hg => hg.elim (h4 k hk) fun hg => by have := h1.lt k hk; omega⟩
theorem MeP.below {w w' : World} {Q : Nat → Prop} {m d : Nat} {P : List Pr} {b : Bool} (h : MeP w Q m d P b) (hB : Below w.heap.size w w') : MeP w' Q m d P b := by
  obtain ⟨j, g, vr, pa, pc, F, h1, h2, h3, h4⟩ := h
  exact ⟨j, g, vr, pa, pc, F, h1.below hB, h2, h3, h4⟩
theorem MeP.sub {w : World} {Q Q' : Nat → Prop} {m d : Nat} {P : List Pr} {b : Bool} (h : MeP w Q m d P b) (hq : ∀ k, Q' k → Q k) : MeP w Q' m d P b := by
  obtain ⟨j, g, vr, pa, pc, F, h1, h2, h3, h4⟩ := h
  exact ⟨j, g, vr, pa, pc, F, h1, h2, h3, fun k hk hg => h4 k hk (hq k hg)⟩
/-- what stands beside the disk behind an Add that was cut -/
structure CB (w wr : World) (Q : Nat → Prop) (m d : Nat) (P P2 l : List Pr) (aa : Option Addr) (ac : Nat) (la : Option Addr) (lc : Nat) : Prop where
  below : Below w.heap.size w wr
  lo : ∀ k, Q k → w.heap.size ≤ k
  lt : ∀ k, Q k → k < wr.heap.size
  old : MeP wr Q m d P2 true
  ahead : Pv wr Q aa P.length ac P
  l : Pv wr Q la l.length lc l
theorem CB.turn {w wr W : World} {Q : Nat → Prop} {m d : Nat} {P P2 l : List Pr} {aa : Option Addr} {ac : Nat} {la : Option Addr} {lc : Nat} (h : CB w wr Q m d P P2 l aa ac la lc) (hT : Turn Q wr W) : CB w W (grow Q wr W) m d P P2 l aa ac la lc where
  below := h.below.trans (hT.below h.below.size h.lo)
  lo := fun k hk => hk.elim (h.lo k) fun hk => Nat.le_trans h.below.size hk.1
  lt := fun k hk => hk.elim (fun hk => Nat.lt_of_lt_of_le (h.lt k hk) hT.size) fun hk => hk.2
  old := h.old.turn hT
  ahead := h.ahead.turn hT
  l := h.l.turn hT
theorem CB.kept {w wr W : World} {Q : Nat → Prop} {m d : Nat} {P P2 l : List Pr} {aa : Option Addr} {ac : Nat} {la : Option Addr} {lc : Nat} (h : CB w wr Q m d P P2 l aa ac la lc) (hB : Below wr.heap.size wr W) : CB w W Q m d P P2 l aa ac la lc :=
  ⟨h.below.trans (hB.mono h.below.size), h.lo, fun k hk => Nat.lt_of_lt_of_le (h.lt k hk) hB.size, h.old.below hB, h.ahead.below hB, h.l.below hB⟩
theorem CB.sub {w wr : World} {Q Q' : Nat → Prop} {m d : Nat} {P P2 l : List Pr} {aa : Option Addr} {ac : Nat} {la : Option Addr} {lc : Nat} (h : CB w wr Q m d P P2 l aa ac la lc) (hq : ∀ k, Q' k → Q k) : CB w wr Q' m d P P2 l aa ac la lc :=
  ⟨h.below, fun k hk => h.lo k (hq k hk), fun k hk => h.lt k (hq k hk), h.old.sub hq, h.ahead.sub hq, h.l.sub hq⟩
/-- a memo and its disk, taken apart: the disk may turn while the memo stays -/
theorem MS.parts {Q : Nat → Prop} {w : World} {m d j : Nat} {g : Me} {rs : List (List UInt8)} {sz : Nat} {jc : Bool} {S : DG} (h : MS Q w m d j g rs sz jc S) :
    ∃ G, IsDisk w d S G ∧ (∀ k, G k → Q k) ∧ ∀ {W : World} {S' : DG} {G3 : Nat → Prop}, Turn G w W → IsDisk W d S' G3 → (∀ k, G3 k → grow G w W k) → MS (grow Q w W) W m d j g rs sz jc S' := by
  obtain ⟨vr, pa, pc, FM, FJ, G, h1, h2, h3, h4, h5, h6⟩ := h
  refine ⟨G, h3, fun k hk => h6 k (.inr (.inr hk)), fun {W S' G3} hT hd hg => ?_⟩
  have hgrow : ∀ k, G3 k → G k ∨ w.heap.size ≤ k := fun k hk => (hg k hk).imp id fun h => h.1
  exact ⟨vr, pa, pc, FM, FJ, G3, h1.turn hT fun k hk => (h4 k hk).2, h2.kept hT.size fun k hk => hT.block k (h2.lt k hk) (h5 k hk), hd, fun k hk => ⟨(h4 k hk).1, fun hk' => (hgrow k hk').elim (h4 k hk).2 fun e => by have := h1.lt k hk; omega⟩,
    fun k hk hk' => (hgrow k hk').elim (h5 k hk) fun e => by have := h2.lt k hk; omega, fun k hk => by
      rcases hk with hk | hk | hk
      · exact .inl (h6 k (.inl hk))
      · exact .inl (h6 k (.inr (.inl hk)))
      · exact (hg k hk).imp (fun e => h6 k (.inr (.inr e))) id⟩
theorem MS.me {Q : Nat → Prop} {w : World} {m d j : Nat} {g : Me} {rs : List (List UInt8)} {sz : Nat} {jc : Bool} {S : DG} (h : MS Q w m d j g rs sz jc S) : ∃ vr pa pc F, MeAt w m d j g vr pa pc F := by
  obtain ⟨vr, pa, pc, FM, _, _, h1, _⟩ := h
  exact ⟨vr, pa, pc, FM, h1⟩
/-! ### plain -/
theorem newsR_eq {P d news : List Pr} (h : newsR P [] d = some news) : news = d.filter fun p => (lookP P p.1).isNone := by
  have := newsR_fits P d [] (newsR_conv P d [] news h)
  rw [h, List.nil_append] at this
  exact Option.some.inj this
/-- an Add again on a disk that nobody cuts: all is known behind it -/
theorem CDisk.again {key : Nat} {S : DG} {rs : List (List UInt8)} {runs : List Nat} {top : Nat} {P P2 : List Pr} {k : Nat} (h : CDisk key S rs runs top P2 true k) (hk : k < 50) (hc : S.cut = false) {l d news : List Pr} (hl : l.length ≤ 40) (hPr : Ris P) (hg : GoodV d) (hp : d.Perm l) (ho : Once l) (h0 : ∀ p ∈ l, p.1 ≠ 0)
    (hnw : newsR P [] d = some news) (hn0 : news ≠ []) (hP : P2 = P ∨ P2 = mergeM P news) {er : Int} {g' : Me} {rs' : List (List UInt8)} {sz' : Nat} {jc' : Bool} {S' : DG} (hR : AddR ⟨key, runs, top, P2, false⟩ l rs (fileB rs).length false S er g' rs' sz' jc' S') :
    er = 0 ∧ ∃ rs3 runs3 top3 P3, CDisk key S' rs3 runs3 top3 P3 true (k + 2) ∧ g' = ⟨key, runs3, top3, P3, false⟩ ∧ (P2 = mergeM P news → P3 = P2) ∧ (∀ p ∈ l, lookP P3 p.1 = some p.2) ∧ P3 ≠ [] := by
  obtain ⟨hsub, hdj⟩ := newsR_sub hnw
  have hconv := newsR_conv P d [] news hnw
  have heq := newsR_eq hnw
  have hmrg : P2 = mergeM P news → ∀ p ∈ d, lookP P2 p.1 = some p.2 := fun e p hp => by
    rw [e, mergeM_look hPr (hg.rs.sublist hsub) hdj]
    rcases hconv p hp with e2 | e2
    · have : p ∈ news := by rw [heq]; exact List.mem_filter.2 ⟨hp, by rw [e2]; rfl⟩
      rw [e2, Option.none_or]
      exact ris_mem_look (hg.rs.sublist hsub) this
    · rw [e2]; rfl
  have hfit : ∀ p ∈ l, lookP P2 p.1 = none ∨ lookP P2 p.1 = some p.2 := fun p hpl => by
    have hpd := hp.mem_iff.2 hpl
    rcases hP with e | e
    · rw [e]; exact hconv p hpd
    · exact .inr (hmrg e p hpd)
  have hlne : l ≠ [] := fun e => by
    subst e
    have := hp.eq_nil
    subst this
    exact hn0 (List.eq_nil_of_length_eq_zero (by have := hsub.length_le; simpa using this))
  have hne : ∀ P3 : List Pr, (∀ p ∈ l, lookP P3 p.1 = some p.2) → P3 ≠ [] := fun P3 h3 e => by
    obtain ⟨p, hpl⟩ := List.exists_mem_of_ne_nil l hlne
    have := h3 p hpl
    rw [e] at this
    cases this
  have hlen := h.len
  obtain ⟨_, hcase⟩ := h.addR hk hl hR
  rcases hcase with ⟨he6, rfl, rfl, rfl, rfl, rfl⟩ | ⟨d', news', rs2, runs2, top2, P3, hg', hp', _, _, hnw', hn0', _, hW⟩
  · have h00 : er = 0 ∧ ∀ p ∈ l, lookP P2 p.1 = some p.2 := by
      rcases hR with ⟨_, ⟨e, _⟩ | ⟨_, ⟨p, hpl, e⟩, _⟩ | ⟨_, _, e, _⟩ | ⟨_, _, _, d', hg', hp', ⟨e, _⟩ | ⟨e, e0⟩ | ⟨nw, e, _, hbig, _⟩⟩⟩ | ⟨_, _, _, d', nw, g1, hg', hp', e, hn1, _, _, hg1⟩
      · cases e
      · exact absurd e (h0 p hpl)
      · exact absurd ho e
      · have := newsR_fits P2 d' [] fun p hpd => hfit p (hp'.mem_iff.1 hpd)
        simp only at e
        rw [e] at this; cases this
      · have e3 := newsR_eq e
        refine ⟨e0, fun p hpl => ?_⟩
        rcases hfit p hpl with e4 | e4
        · have : p ∈ ([] : List Pr) := by rw [e3]; exact List.mem_filter.2 ⟨hp'.mem_iff.2 hpl, by simp only; rw [e4]; rfl⟩
          cases this
        · exact e4
      · have e3 := newsR_eq e
        have : nw.length ≤ l.length := by rw [e3, ← hp'.length_eq]; exact List.length_filter_le _ _
        simp only at hbig
        omega
      · exfalso
        have hfl : false = decide (er ≠ 0) := congrArg Me.failed hg1
        have her : er = 0 := by
          by_cases h : er = 0
          · exact h
          · rw [decide_eq_true h] at hfl; cases hfl
        have hps : P2 = g1.ps := congrArg Me.ps hg1
        rename_i hL
        rcases hL with ⟨e1, e2, _⟩ | ⟨_, e1, e2, _⟩ | ⟨_, _, _, _, _, _, e2, _⟩
        · exact e1 (e2 ▸ her)
        · exact e1 (e2 ▸ her)
        · rw [e2] at hps
          have := congrArg List.length hps
          have h5 : (layG ⟨key, runs, top, P2, false⟩ nw).ps = mergeM P2 nw := rfl
          rw [h5, mergeM_len] at this
          exact hn1 (List.eq_nil_of_length_eq_zero (by omega))
    exact ⟨h00.1, rs', runs, top, P2, h.more (by omega), rfl, fun _ => rfl, h00.2, hne _ h00.2⟩
  · rcases hW with ⟨rfl, rfl, hC, rfl, rfl, rfl, rfl⟩ | ⟨_, hcut, _⟩
    · obtain ⟨hsub', hdj'⟩ := newsR_sub hnw'
      have heq' := newsR_eq hnw'
      have hgd := h.good
      have hlook : ∀ p ∈ l, lookP (mergeM P2 news') p.1 = some p.2 := fun p hpl => by
        rw [mergeM_look hgd.1 (hg'.rs.sublist hsub') hdj']
        rcases hfit p hpl with e | e
        · have : p ∈ news' := by rw [heq']; exact List.mem_filter.2 ⟨hp'.mem_iff.2 hpl, by rw [e]; rfl⟩
          rw [e, Option.none_or]
          exact ris_mem_look (hg'.rs.sublist hsub') this
        · rw [e]; rfl
      refine ⟨rfl, _, _, _, _, hC, rfl, fun e => ?_, hlook, hne _ hlook⟩
      exfalso
      refine hn0' ?_
      rw [heq']
      refine List.filter_eq_nil_iff.2 fun p hpd hx => ?_
      rw [hmrg e p (hp.mem_iff.2 (hp'.mem_iff.1 hpd))] at hx
      cases hx
    · rw [hc] at hcut; cases hcut
/-- how many files there are -/
theorem CDisk.count {key : Nat} {S : DG} {rs : List (List UInt8)} {runs : List Nat} {top : Nat} {P : List Pr} {k : Nat} (h : CDisk key S rs runs top P true k) (hk : k < 60) (hP : P ≠ []) {ns : List (List UInt8)} (hL : S.Lists ns) : ns.length = runs.length + 1 := by
  have htp := h.tp
  have hruns : runs ≠ [] := fun e => by
    have := h.rr
    rw [e] at this
    exact hP (Option.some.inj this).symm
  have hrs : rs ≠ [] := fun e => by
    have := h.rcs
    rw [e] at this
    exact hruns (congrArg Prod.fst this).symm
  have hj : (S.f (nmB key 0)).isSome = true := by
    cases e : S.f (nmB key 0) with
    | some _ => rfl
    | none =>
      have h1 : S.bs (nmB key 0) = [] := by unfold DG.bs; rw [e]; rfl
      rw [h.jS] at h1
      cases rs with
      | nil => exact absurd rfl hrs
      | cons r rs =>
        have h2 : (fileB (r :: rs)).length = (recB r).length + (fileB rs).length := by simp [fileB]
        have h3 := (recB_pos r).1
        rw [h1] at h2
        simp at h2
        omega
  obtain ⟨hnd, hmem⟩ := DG.Lists.sub hL
  have hperm : ns.Perm ((0 :: runs).map (nmB key)) := by
    refine (List.perm_ext_iff_of_nodup hnd ?_).2 fun y => ?_
    · have hb : ∀ x ∈ (0 :: runs : List Nat), x < 100 := fun x hx => by
        rcases List.mem_cons.1 hx with rfl | hx
        · omega
        · have := (h.rg x hx).2; omega
      have hnd0 : (0 :: runs : List Nat).Nodup := List.nodup_cons.2 ⟨fun h0 => by have := (h.rg 0 h0).1; omega, h.nd⟩
      rw [List.Nodup, List.pairwise_map]
      exact List.Pairwise.imp_of_mem (fun {a b} ha hb' hne e => hne (nmB_num (hb a ha) (hb b hb') e)) hnd0
    · rw [hmem]
      constructor
      · intro hy
        obtain ⟨x, hx, rfl⟩ := h.only y hy
        refine List.mem_map.2 ⟨x, ?_, rfl⟩
        by_cases h0 : x = 0
        · rw [h0]; exact List.mem_cons_self ..
        · by_cases hr : x ∈ runs
          · exact List.mem_cons_of_mem _ hr
          · rw [h.fresh rfl x (by omega) (by omega) hr] at hy; cases hy
      · intro hy
        obtain ⟨x, hx, rfl⟩ := List.mem_map.1 hy
        rcases List.mem_cons.1 hx with rfl | hx
        · exact hj
        · exact h.there x hx
  rw [hperm.length_eq]
  simp
end Go.Proofs.YtdjodigimhgklaaGreatDoor

/- Plain: the document's memo, and what an Add makes of it, beside the program's on a disk that nobody cuts. -/
namespace Go.Proofs.YtdjodigimhgklaaGreatDoor
open Go.RowKit Go.Shelf Go.Maps

/-- the document's memo -/
structure Wm where
  parts : List (Nat × List Pr)
  last : Nat
  jn : List UInt8
def Wm.nums (m : Wm) : List Nat := m.parts.map (·.1)
def Wm.flat (m : Wm) : List Pr := (m.parts.map (·.2)).flatten
/-- what the document's Add answers -/
def DocA (m : Wm) (l P : List Pr) (m' : Wm) (b : Bool) (er : Int) : Prop :=
  (m' = m ∧ b = false ∧ (((∃ p ∈ l, p.1 = 0) ∧ er = 2) ∨ ((∀ p ∈ l, p.1 ≠ 0) ∧ ¬ Once l ∧ er = 5) ∨
    ((∀ p ∈ l, p.1 ≠ 0) ∧ Once l ∧ ∃ d, SortR l d ∧ (((∃ p ∈ d, ∃ z, lookP P p.1 = some z ∧ z ≠ p.2) ∧ er = 5) ∨ ((∀ p ∈ d, lookP P p.1 = some p.2) ∧ er = 0))))) ∨
  ((∀ p ∈ l, p.1 ≠ 0) ∧ Once l ∧ b = true ∧ er = 0 ∧ ∃ d q, SortR l d ∧ (∀ p ∈ d, lookP P p.1 = none ∨ lookP P p.1 = some p.2) ∧ d.filter (fun p => (lookP P p.1).isNone) ≠ [] ∧
    ((m.parts.length < 4 ∧ q = d.filter (fun p => (lookP P p.1).isNone) ∧ m'.parts = (m.last + 1, q) :: m.parts) ∨ (4 ≤ m.parts.length ∧ SortR (d.filter (fun p => (lookP P p.1).isNone) ++ P) q ∧ m'.parts = [(m.last + 1, q)])) ∧
    m'.last = m'.nums.foldl max m.last ∧ m'.jn = m.jn ++ recB (encR m'.nums))
/-- the program's memo and disk, beside the document's -/
structure DM (key : Nat) (S : DG) (rs : List (List UInt8)) (m : Wm) (P : List Pr) (k : Nat) : Prop where
  disk : CDisk key S rs m.nums m.last P true k
  cut : S.cut = false
  jn : m.jn = fileB rs
  runs : ∀ p ∈ m.parts, S.bs (nmB key p.1) = runB p.2 ∧ GoodV p.2
  look : ∀ x, lookP P x = lookP m.flat x
  nil : m.jn = [] → ∀ y, S.f y = none
  ne : m.jn ≠ [] → P ≠ []
  fl : m.flat.length ≤ k * 40
def Wm.none : Wm := ⟨[], 0, []⟩
theorem dm_new (key : Nat) {S : DG} {P : List Pr} (h : CDisk key S [] [] 0 P true 2) (hc : S.cut = false) (hS : S = emD) : DM key S [] Wm.none P 2 where
  disk := h
  cut := hc
  jn := rfl
  runs := fun p hp => by cases hp
  look := fun x => by have := h.rr; cases (Option.some.inj this); rfl
  nil := fun _ y => by rw [hS]
  ne := fun h => absurd rfl h
  fl := Nat.zero_le _

/-- what an Add that writes leaves of a disk that nobody cuts -/
theorem CDisk.addU {key : Nat} {S : DG} {rs : List (List UInt8)} {runs : List Nat} {top : Nat} {P : List Pr} {k : Nat} (h : CDisk key S rs runs top P true k) (hc : S.cut = false) (hk : k < 50) {news : List Pr} (hl : news.length ≤ 40) (hnr : Ris news) (hnok : PrOk news) (hn0 : ∀ p ∈ news, p.1 ≠ 0) (hdj : ∀ p ∈ news, lookP P p.1 = none)
    {er : Int} {g' : Me} {rs' : List (List UInt8)} {sz' : Nat} {jc' : Bool} {S' : DG} (hL : LayR ⟨key, runs, top, P, false⟩ news rs (fileB rs).length S er g' rs' sz' jc' S') :
    er = 0 ∧ g' = ⟨key, layR ⟨key, runs, top, P, false⟩, top + 1, mergeM P news, false⟩ ∧ rs' = rs ++ [encR (layR ⟨key, runs, top, P, false⟩)] ∧ sz' = (fileB rs').length ∧ jc' = false ∧ CDisk key S' rs' (layR ⟨key, runs, top, P, false⟩) (top + 1) (mergeM P news) true (k + 2) ∧ S'.cut = false ∧ S.wr < S'.wr ∧
      S'.bs (nmB key (top + 1)) = runB (layN ⟨key, runs, top, P, false⟩ news) ∧ (runs.length < 4 → ∀ x ∈ runs, S'.bs (nmB key x) = S.bs (nmB key x)) := by
  have htp := h.tp
  obtain ⟨a1, a2, a3, a4, a5⟩ := h.lay1 hk hl
  obtain ⟨b1, b2, b3, b4, b6, b5⟩ := h.lay2 hk hl
  have hrun : ∀ x ∈ runs, nmB key x ≠ nmB key 0 ∧ nmB key x ≠ nmB key (top + 1) := fun x hx => by
    have := h.rg x hx
    exact ⟨nm_apart (by omega) (by omega) (by omega), nm_apart (by omega) (by omega) (by omega)⟩
  have hrec := recR_small ⟨key, runs, top, P, false⟩ h.rl
  have hjsz := h.jsz
  have hn := h.n
  have hwr := h.wr
  have hN : (layN ⟨key, runs, top, P, false⟩ news).length ≤ 65536 := by
    have h1 := Go.Proofs.YtdjodigimhgklaaGreatDoor.layN_len ⟨key, runs, top, P, false⟩ news
    have h2 := h.len
    simp only at h1
    omega
  rw [h.jS] at hjsz
  have hbs : S.bs (nmB key (top + 1)) = [] := by unfold DG.bs; rw [h.run0 hk]; rfl
  obtain ⟨f1, f2⟩ := lay_free (g := ⟨key, runs, top, P, false⟩) (news := news) (S := S) hc (show top + 1 < 100 by omega) hbs hN (by omega) (by show (S.bs (nmB key 0)).length ≤ _; rw [h.jS]; omega) (by have := hrec.1; omega) hrec.2
  rcases hL with ⟨e1, _⟩ | ⟨_, e1, _⟩ | ⟨e1, e2, l', hperm, _, e3, rfl, rfl, rfl, rfl, rfl⟩
  · rw [f1] at e1; exact absurd rfl e1
  · rw [f2] at e1; exact absurd rfl e1
  · have hb : (layS2 ⟨key, runs, top, P, false⟩ news S).1.bs (nmB key 0) = fileB rs ++ recB (encR (layR ⟨key, runs, top, P, false⟩)) := by
      rcases b1 with ⟨_, hb⟩ | ⟨e, _⟩
      · exact hb
      · rw [e] at e2; cases e2
    have hf : (layS2 ⟨key, runs, top, P, false⟩ news S).1.bs (nmB key (top + 1)) = runB (layN ⟨key, runs, top, P, false⟩ news) := by
      rw [b6]
      rcases a1 with ⟨_, hb⟩ | ⟨e, _⟩
      · exact hb
      · rw [e] at e1; cases e1
    have hC := h.laid hk hnr hnok hn0 hdj hl hb hf b5 b3 (by omega)
    have hol : ∀ x, x ∈ l' ↔ x ∈ runs ∧ runs.length = 4 := fun x => by
      rw [hperm.mem_iff]
      unfold layO
      by_cases h4 : runs.length = 4
      · rw [if_pos h4]; simp [h4]
      · rw [if_neg h4]; simp [h4]
    have hnd : l'.Nodup := hperm.nodup_iff.2 (by unfold layO; split; exact h.nd; exact List.nodup_nil)
    have hll : l'.length ≤ 1000 := by
      rw [hperm.length_eq]
      unfold layO
      split
      · have := h.rl; show runs.length ≤ 1000; omega
      · simp
    have hnotin : ∀ x ∈ runs, runs.length = 4 → x ∉ layR ⟨key, runs, top, P, false⟩ := fun x hx h4 hm => by
      have := h.rg x hx
      unfold layR at hm
      rw [if_pos h4] at hm
      have := List.mem_singleton.1 hm
      simp only at this
      omega
    have hthere : ∀ x ∈ l', x < 100 ∧ ((layS2 ⟨key, runs, top, P, false⟩ news S).1.f (nmB key x)).isSome = true := fun x hx => by
      obtain ⟨m1, m2⟩ := (hol x).1 hx
      have := h.rg x m1
      exact ⟨by omega, by rw [b5 _ (hrun x m1).1 (hrun x m1).2]; exact h.there x m1⟩
    obtain ⟨r1, r2, r3, r4⟩ := hC.removes (by omega) hnd (fun x hx => by
      obtain ⟨m1, m2⟩ := (hol x).1 hx
      have := h.rg x m1
      exact ⟨this.1, by omega, hnotin x m1 m2, (hthere x hx).2⟩) hll
    obtain ⟨q1, q2, _, q4, q5⟩ := remS_free key l' (layS2 ⟨key, runs, top, P, false⟩ news S).1 (b2.trans hc) hnd hthere
    have e4 := e3.trans q1
    subst e4
    have hnin : ∀ x, x < 100 → x ∉ l' → nmB key x ∉ l'.map (nmB key) := fun x hx hn hm => by
      obtain ⟨z, hz, e⟩ := List.mem_map.1 hm
      have := nmB_num (hthere z hz).1 hx e
      exact hn (this ▸ hz)
    have hkeep : ∀ x, x < 100 → x ∉ l' → (remS key (layS2 ⟨key, runs, top, P, false⟩ news S).1 l').1.bs (nmB key x) = (layS2 ⟨key, runs, top, P, false⟩ news S).1.bs (nmB key x) := fun x hx hn => by
      unfold DG.bs
      rw [q5, if_neg (hnin x hx hn)]
    have htop' : top + 1 ∉ l' := fun hx => by have := (h.rg _ ((hol _).1 hx).1).2; omega
    refine ⟨rfl, rfl, rfl, by rw [fileB_snoc, List.length_append], rfl, ?_, q2, ?_, ?_, fun h4 x hx => ?_⟩
    · rcases r4 with ⟨_, hrm, hsub2⟩ | ⟨_, hcut⟩
      · exact { r2 with
            jb := ⟨0, [], by rw [r3, hb, fileB_snoc]; simp, by have := (recB_pos []).1; omega, by simp, fun _ => rfl⟩
            fresh := fun _ x hx hx2 hxr => by
              have hx1 : x ≠ top + 1 := fun e => hxr (by rw [e]; unfold layR; exact List.mem_cons_self ..)
              by_cases hm : x ∈ runs
              · by_cases h4 : runs.length = 4
                · exact hrm x ((hol x).2 ⟨hm, h4⟩)
                · refine absurd ?_ hxr
                  unfold layR
                  rw [if_neg h4]
                  exact List.mem_cons_of_mem _ hm
              · have h1 := h.fresh rfl x hx hx2 hm
                have h2 := b5 (nmB key x) (nm_apart hx2 (by omega) (by omega)) (nm_apart hx2 (by omega) hx1)
                rcases hsub2 (nmB key x) with e4 | e4
                · rw [e4, h2, h1]
                · exact e4 }
      · rw [b2, hc] at hcut; cases hcut
    · show S.wr < (remS key (layS2 ⟨key, runs, top, P, false⟩ news S).1 l').1.wr
      rw [q4, f2]
      show S.wr < ((S.freeApp _ _).freeApp _ _).wr + _
      rw [freeApp_wr, freeApp_wr]
      have := List.length_pos_iff.2 (run_ne (layN ⟨key, runs, top, P, false⟩ news))
      omega
    · show (remS key (layS2 ⟨key, runs, top, P, false⟩ news S).1 l').1.bs (nmB key (top + 1)) = _
      rw [hkeep (top + 1) (by omega) htop', hf]
    · show (remS key (layS2 ⟨key, runs, top, P, false⟩ news S).1 l').1.bs (nmB key x) = _
      have := h.rg x hx
      rw [hkeep x (by omega) (fun hx' => by have := ((hol x).1 hx').2; omega)]
      unfold DG.bs
      rw [b5 _ (hrun x hx).1 (hrun x hx).2]
end Go.Proofs.YtdjodigimhgklaaGreatDoor

/- Plain: the program's Add and the document's answer alike. -/
namespace Go.Proofs.YtdjodigimhgklaaGreatDoor
open Go.RowKit Go.Shelf Go.Maps

theorem or_swap {a b : Option Nat} (h : a ≠ none → b = none) : a.or b = b.or a := by
  cases a with
  | none => simp
  | some x => rw [h (by simp)]; simp
theorem doc_step {key : Nat} {S : DG} {rs : List (List UInt8)} {m : Wm} {P : List Pr} {k : Nat} (h : DM key S rs m P k) (hk : k < 48) {l : List Pr} (hl : l.length ≤ 40) {er : Int} {g' : Me} {rs' : List (List UInt8)} {sz' : Nat} {jc' : Bool} {S' : DG}
    (hR : AddR ⟨key, m.nums, m.last, P, false⟩ l rs (fileB rs).length false S er g' rs' sz' jc' S') {m' : Wm} {b : Bool} {e : Int} (hD : DocA m l P m' b e) :
    er = e ∧ (S'.wr = S.wr ↔ b = false) ∧ jc' = false ∧ sz' = (fileB rs').length ∧ ∃ P', g' = ⟨key, m'.nums, m'.last, P', false⟩ ∧ DM key S' rs' m' P' (k + 2) := by
  have hlen := h.disk.len
  obtain ⟨pr, pok, pp0⟩ := h.disk.good
  have hsame : DM key S rs m P (k + 2) := { h with disk := h.disk.more (by omega), fl := Nat.le_trans h.fl (by omega) }
  have hsort : Once l → ∀ {d d' : List Pr}, GoodV d → d.Perm l → SortR l d' → d = d' := fun ho {d d'} hg hp hs =>
    hs.uniq hg.rs fun x => look_perm (Ris.once hg.rs) hp x
  rcases hR with ⟨⟨rfl, rfl, rfl, rfl, rfl⟩, hc⟩ | ⟨_, h0, ho, d, news, g1, hg, hp, hnw, hn0, _, hL, rfl⟩
  · suffices hs : er = e ∧ m' = m ∧ b = false by
      obtain ⟨rfl, rfl, rfl⟩ := hs
      exact ⟨rfl, ⟨fun _ => rfl, fun _ => rfl⟩, rfl, rfl, P, rfl, hsame⟩
    rcases hc with ⟨hc, _⟩ | ⟨_, ⟨p, hp, e0⟩, rfl⟩ | ⟨_, h0, ho, rfl⟩ | ⟨_, h0, ho, d', hg, hp, hc⟩
    · cases hc
    · rcases hD with ⟨rfl, rfl, ⟨_, rfl⟩ | ⟨h0, _⟩ | ⟨h0, _⟩⟩ | ⟨h0, _⟩
      · exact ⟨rfl, rfl, rfl⟩
      · exact absurd e0 (h0 p hp)
      · exact absurd e0 (h0 p hp)
      · exact absurd e0 (h0 p hp)
    · rcases hD with ⟨rfl, rfl, ⟨⟨p, hp, e0⟩, _⟩ | ⟨_, _, rfl⟩ | ⟨_, ho', _⟩⟩ | ⟨_, ho', _⟩
      · exact absurd e0 (h0 p hp)
      · exact ⟨rfl, rfl, rfl⟩
      · exact absurd ho' ho
      · exact absurd ho' ho
    · simp only at hc
      have hconv : (∀ p ∈ d', lookP P p.1 = none ∨ lookP P p.1 = some p.2) → newsR P [] d' = some (d'.filter fun p => (lookP P p.1).isNone) := fun hf => by
        have := newsR_fits P d' [] hf
        rwa [List.nil_append] at this
      have hdl := hp.length_eq
      have hbig : ∀ news, newsR P [] d' = some news → news.length ≤ 40 := fun news hn => by
        have := (newsR_sub hn).1.length_le
        omega
      rcases hD with ⟨rfl, rfl, ⟨⟨p, hp, e0⟩, _⟩ | ⟨_, ho', _⟩ | ⟨_, _, d, hs, hk2⟩⟩ | ⟨_, _, _, _, d, q, hs, hf, hne, _⟩
      · exact absurd e0 (h0 p hp)
      · exact absurd ho ho'
      · obtain rfl := hsort ho hg hp hs
        refine ⟨?_, rfl, rfl⟩
        rcases hk2 with ⟨⟨p, hpd, z, hz, hne⟩, rfl⟩ | ⟨hall, rfl⟩
        · rcases hc with ⟨_, rfl⟩ | ⟨hn, _⟩ | ⟨news, hn, _⟩
          · rfl
          · rcases newsR_conv P d' [] _ hn p hpd with e | e
            · rw [hz] at e; cases e
            · rw [hz] at e; exact absurd (Option.some.inj e) hne
          · rcases newsR_conv P d' [] _ hn p hpd with e | e
            · rw [hz] at e; cases e
            · rw [hz] at e; exact absurd (Option.some.inj e) hne
        · have hn := hconv fun p hp => .inr (hall p hp)
          rcases hc with ⟨e, _⟩ | ⟨_, rfl⟩ | ⟨news, e, _, hb, _⟩
          · rw [hn] at e; cases e
          · rfl
          · have := hbig _ e
            omega
      · obtain rfl := hsort ho hg hp hs
        have hn := hconv hf
        rcases hc with ⟨e, _⟩ | ⟨e, _⟩ | ⟨news, e, _, hb, _⟩
        · rw [hn] at e; cases e
        · rw [hn] at e; exact absurd (Option.some.inj e) hne
        · have := hbig _ e
          omega
  · simp only at hnw
    obtain ⟨hsub, hdj⟩ := newsR_sub hnw
    have heq := newsR_eq hnw
    have hcv := newsR_conv P d [] news hnw
    have hdl := hp.length_eq
    have hnl : news.length ≤ 40 := by have := hsub.length_le; omega
    have hnr : Ris news := hg.rs.sublist hsub
    have hnok : PrOk news := fun p hpn => hg.ok p (hsub.subset hpn)
    have hn0' : ∀ p ∈ news, p.1 ≠ 0 := fun p hpn => hg.p0 p (hsub.subset hpn)
    obtain ⟨rfl, rfl, rfl, rfl, rfl, hC, hcut, hwr, hbt, hbo⟩ := h.disk.addU h.cut (by omega) hnl hnr hnok hn0' hdj hL
    rcases hD with ⟨_, _, ⟨⟨p, hp, e0⟩, _⟩ | ⟨_, ho', _⟩ | ⟨_, _, d', hs, hk2⟩⟩ | ⟨_, _, rfl, rfl, d', q, hs, hf, hne, hparts, hlast, hjn⟩
    · exact absurd e0 (h0 p hp)
    · exact absurd ho ho'
    · obtain rfl := hsort ho hg hp hs
      exfalso
      rcases hk2 with ⟨⟨p, hpd, z, hz, hne⟩, rfl⟩ | ⟨hall, rfl⟩
      · rcases hcv p hpd with e | e
        · rw [hz] at e; cases e
        · rw [hz] at e; exact absurd (Option.some.inj e) hne
      · refine hn0 ?_
        rw [heq]
        exact List.filter_eq_nil_iff.2 fun p hpd hx => by rw [hall p hpd] at hx; cases hx
    · obtain rfl := hsort ho hg hp hs
      rw [← heq] at hparts
      have hC' := hC.good
      have hCl := hC.len
      have hgood : GoodV (mergeM P news) := ris_good hC'.1 hC'.2.1 hC'.2.2 (by omega)
      have hgn : GoodV news := ris_good hnr hnok hn0' (by omega)
      have hrl := h.disk.rl
      have hnl2 : m.nums.length = m.parts.length := List.length_map _
      have hls : ∀ x, lookP news x ≠ none → lookP P x = none := fun x hx => by
        cases e : lookP news x with
        | none => exact absurd e hx
        | some y => exact hdj _ (look_mem e)
      have hnums : m'.nums = layR ⟨key, m.nums, m.last, P, false⟩ := by
        unfold layR
        rcases hparts with ⟨h4, _, e⟩ | ⟨h4, _, e⟩
        · rw [if_neg (by simp only; omega)]
          unfold Wm.nums
          rw [e]; rfl
        · rw [if_pos (by simp only; omega)]
          unfold Wm.nums
          rw [e]; rfl
      have hlast' : m'.last = m.last + 1 := by
        rw [hlast, hnums]
        unfold layR
        rw [List.foldl_cons, Nat.max_eq_right (Nat.le_succ _)]
        refine foldl_max _ _ fun x hx => ?_
        split at hx
        · cases hx
        · have := (h.disk.rg x hx).2; show x ≤ m.last + 1; omega
      have hrec := recR_small ⟨key, m.nums, m.last, P, false⟩ h.disk.rl
      have hjn' : m'.jn ≠ [] := by
        rw [hjn, hnums]
        intro e
        exact hrec.2 (List.append_eq_nil_iff.1 e).2
      refine ⟨rfl, ⟨fun e => by omega, fun e => by cases e⟩, rfl, rfl, mergeM P news, by rw [hnums, hlast']; rfl, ?_⟩
      exact {
        disk := by rw [hnums, hlast']; exact hC
        cut := hcut
        jn := by rw [hjn, hnums, h.jn, fileB_snoc]
        runs := fun p hpm => by
          rcases hparts with ⟨h4, rfl, e⟩ | ⟨h4, hq, e⟩
          · have hN : layN ⟨key, m.nums, m.last, P, false⟩ q = q := by unfold layN; rw [if_neg (by simp only; omega)]
            rw [e] at hpm
            rcases List.mem_cons.1 hpm with rfl | hpm
            · exact ⟨by rw [hbt, hN], hgn⟩
            · have := h.runs p hpm
              exact ⟨by rw [hbo (show m.nums.length < 4 by omega) p.1 (List.mem_map_of_mem hpm)]; exact this.1, this.2⟩
          · have hN : layN ⟨key, m.nums, m.last, P, false⟩ news = mergeM P news := by unfold layN; rw [if_pos (by simp only; omega)]
            have hqe : mergeM P news = q := hq.uniq hC'.1 fun x => by
              rw [mergeM_look pr hnr hdj, look_app, or_swap (hls x)]
            rw [e] at hpm
            obtain rfl := List.mem_singleton.1 hpm
            exact ⟨by rw [hbt, hN, hqe], by rw [← hqe]; exact hgood⟩
        look := fun x => by
          rw [mergeM_look pr hnr hdj, ← or_swap (hls x)]
          rcases hparts with ⟨h4, rfl, e⟩ | ⟨h4, hq, e⟩
          · unfold Wm.flat
            rw [e, List.map_cons, List.flatten_cons, look_app, h.look]
            rfl
          · unfold Wm.flat
            rw [e]
            simp only [List.map_cons, List.map_nil, List.flatten_cons, List.flatten_nil, List.append_nil]
            rw [hq.look, look_app]
        nil := fun e => absurd e hjn'
        fl := by
          have hfl := h.fl
          rcases hparts with ⟨h4, rfl, e⟩ | ⟨h4, hq, e⟩
          · unfold Wm.flat at *
            rw [e, List.map_cons, List.flatten_cons, List.length_append]
            simp only
            omega
          · have hqe : mergeM P news = q := hq.uniq hC'.1 fun x => by
              rw [mergeM_look pr hnr hdj, look_app, or_swap (hls x)]
            unfold Wm.flat
            rw [e]
            simp only [List.map_cons, List.map_nil, List.flatten_cons, List.flatten_nil, List.append_nil]
            rw [← hqe]
            omega
        ne := fun _ e => by
          have := congrArg List.length e
          rw [mergeM_len] at this
          exact hn0 (List.eq_nil_of_length_eq_zero (by rw [List.length_nil] at this; omega)) }
end Go.Proofs.YtdjodigimhgklaaGreatDoor
