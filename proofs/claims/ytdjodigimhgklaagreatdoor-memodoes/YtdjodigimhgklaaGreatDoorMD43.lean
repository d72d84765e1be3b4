import Derived.Test.YtdjodigimhgklaaGreatDoorMD38
import Derived.Test.YtdjodigimhgklaaGreatDoorMD31
import Derived.Test.YtdjodigimhgklaaGreatDoorMD29
import Derived.Test.YtdjodigimhgklaaGreatDoorMD35
import Derived.Test.YtdjodigimhgklaaGreatDoorMD17
/- The law MemoCut: its calls, as steps of what stands in memory. -/
namespace Go.Proofs.YtdjodigimhgklaaGreatDoor
open Go.RowKit Go.Shelf Go.Maps

theorem take_in {w : World} {a : Option Addr} {n c : Nat} {l : List Pr} (h : PrIn w a n c l) : PrV w a (min n 40) c (l.take 40) ∧ (l.take 40).length = min n 40 ∧ (0 < min n 40 → ∀ x, a = some x → x.block < w.heap.size) := by
  have hl := h.prs.1
  have hc := h.cap
  have hlen : (l.take 40).length = min n 40 := by rw [List.length_take]; omega
  have hp : Prs w a (min n 40) (l.take 40) := by
    by_cases hn : n ≤ 40
    · rw [List.take_of_length_le (by omega), Nat.min_eq_left hn]; exact h.prs
    · rw [Nat.min_eq_right (by omega)]; exact prs_take h.prs 40 (by omega)
  refine ⟨⟨hp, fun e => ?_, by omega⟩, hlen, fun h0 x e => ?_⟩
  · have := h.nil e; exact ⟨by omega, this.2⟩
  · obtain ⟨b, o, e2, hcs⟩ := hp.2 h0
    rw [e] at e2
    cases e2
    obtain ⟨p, hpp⟩ : ∃ p, (l.take 40)[0]? = some p := ⟨_, List.getElem?_eq_getElem (by omega)⟩
    exact World.block_lt_of_cell? w _ (hcs 0 p hpp).1

/-- ahead of an Add: the memo knows P, its disk is clean -/
def CutI (w wr : World) (m d key k : Nat) : Prop := ∃ j runs top P rs S Q, MS Q wr m d j ⟨key, runs, top, P, false⟩ rs (fileB rs).length false S ∧ CDisk key S rs runs top P true k ∧ (∀ i, Q i → w.heap.size ≤ i ∧ i < wr.heap.size) ∧ Below w.heap.size w wr
/-- .. and what it knows is told in a row -/
def CutA (w wr : World) (m d key k : Nat) (P : List Pr) (aa : Option Addr) (ac : Nat) : Prop := ∃ j runs top rs S Q, MS Q wr m d j ⟨key, runs, top, P, false⟩ rs (fileB rs).length false S ∧ CDisk key S rs runs top P true k ∧ (∀ i, Q i → w.heap.size ≤ i ∧ i < wr.heap.size) ∧ Below w.heap.size w wr ∧ Pv wr Q aa P.length ac P
/-- what an Add that was cut leaves to be known -/
def Fact (P P2 l : List Pr) : Prop := Ris P ∧ P.length ≤ 2000 ∧ P2.length ≤ 2000 ∧ l.length ≤ 40 ∧ ∃ dd news, GoodV dd ∧ dd.Perm l ∧ Once l ∧ (∀ p ∈ l, p.1 ≠ 0) ∧ newsR P [] dd = some news ∧ news ≠ [] ∧ (P2 = P ∨ P2 = mergeM P news)
/-- behind an Add that was cut -/
def CutF (w wr : World) (m d key k : Nat) (b : Bool) (P P2 l : List Pr) (aa : Option Addr) (ac : Nat) (la : Option Addr) (lc : Nat) : Prop :=
  ∃ Q rs runs top S, CB w wr Q m d P P2 l aa ac la lc ∧ IsDisk wr d S Q ∧ CDisk key S rs runs top P2 false k ∧ (b = false → S.cut = false)
/-- a memo opened of it again -/
def CutO (w wr : World) (m m2 d key k nw B : Nat) (P P2 l : List Pr) (aa : Option Addr) (ac : Nat) (la : Option Addr) (lc : Nat) : Prop :=
  ∃ Q rs runs top S j, CB w wr Q m d P P2 l aa ac la lc ∧ MS Q wr m2 d j ⟨key, runs, top, P2, false⟩ rs (fileB rs).length false S ∧ CDisk key S rs runs top P2 true k ∧ S.cut = false ∧ S.wr = nw ∧ (∀ i, Q i → i < B)
/-- .. that has learned the rest -/
def CutE (w wr : World) (m2 d nr : Nat) (P3 : List Pr) : Prop := ∃ Q key rs' sz jc rs runs top S j k, MS Q wr m2 d j ⟨key, runs, top, P3, false⟩ rs' sz jc S ∧ CDisk key S rs runs top P3 true k ∧ k < 60 ∧ runs.length = nr ∧ P3 ≠ [] ∧ Below w.heap.size w wr

theorem cutI_open {w w1 : World} (hB : Below w.heap.size w w1) {d key : Nat} {G : Nat → Prop} (hd : IsDisk w1 d emD G) (hG : ∀ i, G i → w.heap.size ≤ i) (hk0 : key ≠ 0) (hkey : key < 18446744073709551616) :
    Calls Tryz.prog 10 #[.pointer (some ⟨d, 0, none⟩), .int .u64 (key : Int)] w1 fun e w' => ∃ m, e = .returned (.tuple #[.pointer (some ⟨m, 0, none⟩), .int .i64 0]) ∧ CutI w w' m d key 2 := by
  refine ((cdisk_new key).calls (by omega) hk0 hkey w1 d G hd).mono ?_
  intro e w' hA
  obtain ⟨S', _, hT, hcase⟩ := (cdisk_new key).openC (by omega) hkey hA
  have hs := hB.size
  rcases hcase with ⟨_, hc, _⟩ | ⟨m, j, rfl, hC, hM, _⟩
  · cases hc
  · refine ⟨m, rfl, j, _, _, _, _, S', _, hM, hC, fun i hi => ?_, hB.trans (hT.below hs hG)⟩
    have := hd.lt
    have hs2 := hT.size
    rcases hi with hi | hi
    · have h1 := hG i hi; have h2 := this i hi; exact ⟨h1, by omega⟩
    · exact ⟨by omega, hi.2⟩
theorem CutI.cut {w wr : World} {m d key k : Nat} (h : CutI w wr m d key k) (n : Nat) (hn : n ≤ 9223372036854775807) :
    Calls Tryz.prog 32 #[.pointer (some ⟨d, 0, none⟩), .int .i64 n] wr fun e w' => e = .returned (.int .i64 0) ∧ CutI w w' m d key k := by
  obtain ⟨j, runs, top, P, rs, S, Q, hM, hC, hQ, hB⟩ := h
  obtain ⟨G, hd, hGQ, hstay⟩ := hM.parts
  refine (cut_any d S G wr n hd hn).mono ?_
  rintro e w' ⟨rfl, hd', hT⟩
  have hs := hT.size
  refine ⟨rfl, j, runs, top, P, rs, _, _, hstay hT hd' (fun i hi => .inl hi), hC.same rfl rfl rfl, fun i hi => ?_, hB.trans (hT.below hB.size fun i hi => (hQ i (hGQ i hi)).1)⟩
  have hs1 := hB.size
  rcases hi with hi | hi
  · have := hQ i hi; exact ⟨this.1, by omega⟩
  · exact ⟨by omega, hi.2⟩
theorem CutI.all {w wr : World} {m d key k : Nat} (h : CutI w wr m d key k) (hk : k < 50) :
    Calls Tryz.prog 33 #[.pointer (some ⟨m, 0, none⟩)] wr fun e w' => ∃ aa ac P, e = .returned (.slice aa P.length ac) ∧ CutA w w' m d key k P aa ac := by
  obtain ⟨j, runs, top, P, rs, S, Q, hM, hC, hQ, hB⟩ := h
  obtain ⟨vr, pa, pc, F, hme⟩ := hM.me
  have hlen := hC.len
  refine (yall_any wr m d j _ vr pa pc F hme (show P.length ≤ 65536 by omega)).mono ?_
  rintro e w' ⟨v, rfl, hown, hB2⟩
  obtain ⟨ad, c, rfl, hpv⟩ := pv_own (Q := Q) hown fun i hi => (hQ i hi).2
  have hs := hB2.size
  exact ⟨ad, c, P, rfl, j, runs, top, rs, S, Q, hM.below hB2, hC, fun i hi => ⟨(hQ i hi).1, by have := (hQ i hi).2; omega⟩, hB.trans (hB2.mono hB.size), hpv⟩
theorem CutA.add {w wr : World} {m d key k : Nat} {P : List Pr} {aa : Option Addr} {ac : Nat} (h : CutA w wr m d key k P aa ac) (hk : k < 40) (hkey : key < 18446744073709551616) {la : Option Addr} {ln lc : Nat} {l0 l : List Pr} (hl : PrIn w la ln lc l0) (hl2 : l = l0.take 40) :
    Calls Tryz.prog 13 #[.pointer (some ⟨m, 0, none⟩), .slice la l.length lc] wr fun e w' => ∃ er : Int, e = .returned (.int .i64 er) ∧ ((er ≠ 6 ∧ CutI w w' m d key (k + 2)) ∨ (er = 6 ∧ ∃ P2, Fact P P2 l ∧ CutF w w' m d key (k + 2) true P P2 l aa ac la lc)) := by
  obtain ⟨j, runs, top, rs, S, Q, hM, hC, hQ, hB, hpv⟩ := h
  obtain ⟨h1, h2, h3⟩ := take_in hl
  rw [← hl2] at h1 h2
  rw [← h2] at h1 h3
  have hok : PrOk l := by rw [hl2]; exact hl.ok.take 40
  have htp := hC.tp
  have hn := hC.n
  have hw := hC.wr
  have hlen := hC.len
  have hll : l.length ≤ 40 := by omega
  refine (yadd_any Q wr m d j _ rs _ false S hM (fun i hi => (hQ i hi).2) (fun _ => rfl) la l.length lc l (h1.kept hB) hok (show ∀ p ∈ P, p.1 ≠ 0 from hC.good.2.2) (by omega) hkey (show top + 1 < 100 by omega) (show ∀ x ∈ runs, x < 100 from fun x hx => by have := hC.rg x hx; omega) hC.rl
    (by
      have : S.bs (nmB key (top + 1)) = [] := by unfold DG.bs; rw [hC.run0 (by omega)]; rfl
      show (S.bs (nmB key (top + 1))).length ≤ _
      rw [this]; exact Nat.zero_le _) (by omega) (by omega) (hC.hlay (by omega) l l.length hll)).mono ?_
  rintro e w' ⟨hT, er, g', rs', sz', jc', S', rfl, hR, hM'⟩
  have hs := hT.size
  have hs1 := hB.size
  have hB' : Below w.heap.size w w' := hB.trans (hT.below hB.size fun i hi => (hQ i hi).1)
  have hQ' : ∀ i, grow Q wr w' i → w.heap.size ≤ i ∧ i < w'.heap.size := fun i hi => by
    rcases hi with hi | hi
    · have := hQ i hi; exact ⟨this.1, by omega⟩
    · exact ⟨by omega, hi.2⟩
  refine ⟨er, rfl, ?_⟩
  obtain ⟨_, hcase⟩ := hC.addR (by omega) hll hR
  rcases hcase with ⟨he, rfl, rfl, rfl, rfl, rfl⟩ | ⟨dd, news, rs2, runs2, top2, P2, hg, hp, ho, h0, hnw, hn0, hP2, hW⟩
  · exact .inl ⟨he, j, runs, top, P, rs', S', _, hM', hC.more (by omega), hQ', hB'⟩
  · rcases hW with ⟨rfl, rfl, hC', rfl, rfl, rfl, rfl⟩ | ⟨rfl, _, hC', hps, hf, _⟩
    · exact .inl ⟨by decide, j, _, _, _, _, S', _, hM', hC', hQ', hB'⟩
    · have hlen2 := hC'.len
      refine .inr ⟨rfl, P2, ⟨hC.good.1, by omega, by omega, hll, dd, news, hg, hp, ho, h0, hnw, hn0, hP2⟩, ?_⟩
      obtain ⟨vr, pa, pc, FM, FJ, G, m1, _, m3, m4, _, m6⟩ := hM'
      have hGq : ∀ i, G i → grow Q wr w' i := fun i hi => m6 i (.inr (.inr hi))
      refine ⟨G, rs2, runs2, top2, S', ⟨hB', fun i hi => (hQ' i (hGq i hi)).1, fun i hi => (hQ' i (hGq i hi)).2, ⟨j, g', vr, pa, pc, FM, m1, hps, hf, fun i hi => (m4 i hi).2⟩, (hpv.turn hT).sub hGq, ?_⟩, m3, hC', fun e => by cases e⟩
      have hpl : Pv wr Q la l.length lc l := ⟨h1.kept hB, fun h0 x e => ⟨by have := h3 h0 x e; omega, fun hq => by have := h3 h0 x e; have := (hQ _ hq).1; omega⟩⟩
      exact (hpl.turn hT).sub hGq
theorem CutF.mend {w wr : World} {m d key k : Nat} {b : Bool} {P P2 l : List Pr} {aa : Option Addr} {ac : Nat} {la : Option Addr} {lc : Nat} (h : CutF w wr m d key k b P P2 l aa ac la lc) :
    Calls Tryz.prog 34 #[.pointer (some ⟨d, 0, none⟩)] wr fun e w' => e = .returned (.int .i64 0) ∧ CutF w w' m d key k false P P2 l aa ac la lc := by
  obtain ⟨Q, rs, runs, top, S, hCB, hd, hC, _⟩ := h
  refine (mend_any d S Q wr hd).mono ?_
  rintro e w' ⟨rfl, hd', hT⟩
  exact ⟨rfl, Q, rs, runs, top, _, (hCB.turn hT).sub fun i hi => .inl hi, hd', hC.same rfl rfl rfl, fun _ => rfl⟩
theorem CutF.cut {w wr : World} {m d key k : Nat} {b : Bool} {P P2 l : List Pr} {aa : Option Addr} {ac : Nat} {la : Option Addr} {lc : Nat} (h : CutF w wr m d key k b P P2 l aa ac la lc) (n : Nat) (hn : n ≤ 9223372036854775807) :
    Calls Tryz.prog 32 #[.pointer (some ⟨d, 0, none⟩), .int .i64 n] wr fun e w' => e = .returned (.int .i64 0) ∧ CutF w w' m d key k true P P2 l aa ac la lc := by
  obtain ⟨Q, rs, runs, top, S, hCB, hd, hC, _⟩ := h
  refine (cut_any d S Q wr n hd hn).mono ?_
  rintro e w' ⟨rfl, hd', hT⟩
  exact ⟨rfl, Q, rs, runs, top, _, (hCB.turn hT).sub fun i hi => .inl hi, hd', hC.same rfl rfl rfl, fun e => by cases e⟩
theorem CutF.opens {w wr : World} {m d key k : Nat} {b : Bool} {P P2 l : List Pr} {aa : Option Addr} {ac : Nat} {la : Option Addr} {lc : Nat} (h : CutF w wr m d key k b P P2 l aa ac la lc) (hk : k < 50) (hk0 : key ≠ 0) (hkey : key < 18446744073709551616) :
    Calls Tryz.prog 10 #[.pointer (some ⟨d, 0, none⟩), .int .u64 (key : Int)] wr fun e w' => (e = .returned (.tuple #[.pointer none, .int .i64 6]) ∨ ∃ m2, e = .returned (.tuple #[.pointer (some ⟨m2, 0, none⟩), .int .i64 0])) ∧ CutF w w' m d key (k + 2) true P P2 l aa ac la lc := by
  obtain ⟨Q, rs, runs, top, S, hCB, hd, hC, _⟩ := h
  refine (hC.calls hk hk0 hkey wr d Q hd).mono ?_
  intro e w' hA
  obtain ⟨S', _, hT, hcase⟩ := hC.openC hk hkey hA
  rcases hcase with ⟨rfl, _, hC', hd'⟩ | ⟨m2, j, rfl, hC', hM, _⟩
  · exact ⟨.inl rfl, _, rs, runs, top, S', hCB.turn hT, hd', hC', fun e => by cases e⟩
  · obtain ⟨G, hd', hG, _⟩ := hM.parts
    exact ⟨.inr ⟨m2, rfl⟩, G, rs, runs, top, S', (hCB.turn hT).sub hG, hd', hC'.dirty, fun e => by cases e⟩
theorem CutF.opened {w wr : World} {m d key k : Nat} {P P2 l : List Pr} {aa : Option Addr} {ac : Nat} {la : Option Addr} {lc : Nat} (h : CutF w wr m d key k false P P2 l aa ac la lc) (hk : k < 50) (hk0 : key ≠ 0) (hkey : key < 18446744073709551616) :
    Calls Tryz.prog 10 #[.pointer (some ⟨d, 0, none⟩), .int .u64 (key : Int)] wr fun e w' => ∃ m2 nw, e = .returned (.tuple #[.pointer (some ⟨m2, 0, none⟩), .int .i64 0]) ∧ CutO w w' m m2 d key (k + 2) nw w'.heap.size P P2 l aa ac la lc := by
  obtain ⟨Q, rs, runs, top, S, hCB, hd, hC, hb⟩ := h
  refine (hC.calls hk hk0 hkey wr d Q hd).mono ?_
  intro e w' hA
  obtain ⟨S', hc, hT, hcase⟩ := hC.openC hk hkey hA
  rcases hcase with ⟨rfl, e, _⟩ | ⟨m2, j, rfl, hC', hM, _⟩
  · rw [hb rfl] at e; cases e
  · exact ⟨m2, S'.wr, rfl, _, rs, runs, top, S', j, hCB.turn hT, hM, hC', hc.trans (hb rfl), rfl, (hCB.turn hT).lt⟩
theorem CutO.writes {w wr : World} {m m2 d key k nw B : Nat} {P P2 l : List Pr} {aa : Option Addr} {ac : Nat} {la : Option Addr} {lc : Nat} (h : CutO w wr m m2 d key k nw B P P2 l aa ac la lc) :
    Calls Tryz.prog 12 #[.pointer (some ⟨d, 0, none⟩)] wr fun e w' => e = .returned (.int .i64 (nw : Int)) ∧ w' = wr := by
  obtain ⟨Q, rs, runs, top, S, j, hCB, hM, hC, hc, rfl, hB⟩ := h
  obtain ⟨G, hd, _, _⟩ := hM.parts
  exact writes_any d S G wr hd
theorem CutO.kept {w wr W : World} {m m2 d key k nw B : Nat} {P P2 l : List Pr} {aa : Option Addr} {ac : Nat} {la : Option Addr} {lc : Nat} (h : CutO w wr m m2 d key k nw B P P2 l aa ac la lc) (hW : Below wr.heap.size wr W) : CutO w W m m2 d key k nw B P P2 l aa ac la lc := by
  obtain ⟨Q, rs, runs, top, S, j, hCB, hM, hC, hc, hw, hB⟩ := h
  exact ⟨Q, rs, runs, top, S, j, hCB.kept hW, hM.below hW, hC, hc, hw, hB⟩
theorem CutO.twice {w wr : World} {m m2 d key k nw B : Nat} {P P2 l : List Pr} {aa : Option Addr} {ac : Nat} {la : Option Addr} {lc : Nat} (h : CutO w wr m m2 d key k nw B P P2 l aa ac la lc) (hk : k < 50) (hk0 : key ≠ 0) (hkey : key < 18446744073709551616) :
    Calls Tryz.prog 10 #[.pointer (some ⟨d, 0, none⟩), .int .u64 (key : Int)] wr fun e w' => ∃ m3, e = .returned (.tuple #[.pointer (some ⟨m3, 0, none⟩), .int .i64 0]) ∧ CutO w w' m m2 d key k nw w'.heap.size P P2 l aa ac la lc ∧ MeP w' (fun _ => False) m3 d P2 false := by
  obtain ⟨Q, rs, runs, top, S, j, hCB, hM, hC, hc, hw, hB⟩ := h
  obtain ⟨G, hd, hG, hstay⟩ := hM.parts
  refine (hC.calls hk hk0 hkey wr d G hd).mono ?_
  intro e w' hA
  obtain ⟨S', _, hT, hcase⟩ := hC.openC hk hkey hA
  rcases hcase with ⟨rfl, e, _⟩ | ⟨m3, j3, rfl, _, hM3, hS⟩
  · rw [hc] at e; cases e
  · obtain rfl := hS rfl
    obtain ⟨G3, hd3, hG3, _⟩ := hM3.parts
    obtain ⟨vr, pa, pc, F, hme⟩ := hM3.me
    have hCB' := hCB.turn (hT.wide hG)
    exact ⟨m3, rfl, ⟨_, rs, runs, top, S', j, hCB', hstay hT hd3 hG3, hC, hc, hw, hCB'.lt⟩, j3, _, vr, pa, pc, F, hme, rfl, rfl, fun _ _ e => e⟩
theorem MeP.all {w : World} {Q : Nat → Prop} {m d : Nat} {P : List Pr} {b : Bool} (h : MeP w Q m d P b) (hP : P.length ≤ 65536) :
    Calls Tryz.prog 33 #[.pointer (some ⟨m, 0, none⟩)] w fun e w' => ∃ a c, e = .returned (.slice a P.length c) ∧ PrV w' a P.length c P ∧ (∀ x, a = some x → w.heap.size ≤ x.block ∧ x.block < w'.heap.size) ∧ Below w.heap.size w w' := by
  obtain ⟨j, g, vr, pa, pc, F, h1, rfl, _, _⟩ := h
  refine (yall_any w m d j g vr pa pc F h1 hP).mono ?_
  rintro e w' ⟨v, rfl, hown, hB⟩
  obtain ⟨ad, c, rfl, hp, _⟩ := own_prv hown
  exact ⟨ad, c, rfl, hp, fun x e => hown.lt x.block (by rw [e]; rfl), hB⟩
theorem MeP.standin {w : World} {Q : Nat → Prop} {m d : Nat} {P : List Pr} {b : Bool} (h : MeP w Q m d P b) (c : Nat) :
    Calls Tryz.prog 27 #[.pointer (some ⟨m, 0, none⟩), .int .u64 (c : Int)] w fun e w' => e = .returned (stdV (lookP P c)) ∧ Below w.heap.size w w' := by
  obtain ⟨j, g, vr, pa, pc, F, h1, rfl, _, _⟩ := h
  exact standin_any w m d j g vr pa pc F h1 c
theorem MeP.failed {w : World} {Q : Nat → Prop} {m d : Nat} {P : List Pr} (h : MeP w Q m d P true) (v : Value) :
    Calls Tryz.prog 13 #[.pointer (some ⟨m, 0, none⟩), v] w fun e w' => e = .returned (.int .i64 6) ∧ Below w.heap.size w w' := by
  obtain ⟨j, g, vr, pa, pc, F, h1, _, h3, _⟩ := h
  exact add_failed w m d j g vr pa pc F h1 h3 v
theorem CutF.old {w wr : World} {m d key k : Nat} {b : Bool} {P P2 l : List Pr} {aa : Option Addr} {ac : Nat} {la : Option Addr} {lc : Nat} (h : CutF w wr m d key k b P P2 l aa ac la lc) : ∃ Q, MeP wr Q m d P2 true := by
  obtain ⟨Q, _, _, _, _, hCB, _⟩ := h
  exact ⟨Q, hCB.old⟩
theorem CutF.kept {w wr W : World} {m d key k : Nat} {b : Bool} {P P2 l : List Pr} {aa : Option Addr} {ac : Nat} {la : Option Addr} {lc : Nat} (h : CutF w wr m d key k b P P2 l aa ac la lc) (hW : Below wr.heap.size wr W) : CutF w W m d key k b P P2 l aa ac la lc := by
  obtain ⟨Q, rs, runs, top, S, hCB, hd, hC, hb⟩ := h
  exact ⟨Q, rs, runs, top, S, hCB.kept hW, hd.turn (Turn.of_below (fun _ => False) hW) fun _ _ => id, hC, hb⟩
theorem CutO.old {w wr : World} {m m2 d key k nw B : Nat} {P P2 l : List Pr} {aa : Option Addr} {ac : Nat} {la : Option Addr} {lc : Nat} (h : CutO w wr m m2 d key k nw B P P2 l aa ac la lc) : (∃ Q, MeP wr Q m d P2 true) ∧ MeP wr (fun _ => False) m2 d P2 false ∧ PrV wr aa P.length ac P ∧ PrV wr la l.length lc l := by
  obtain ⟨Q, rs, runs, top, S, j, hCB, hM, _⟩ := h
  obtain ⟨vr, pa, pc, F, hme⟩ := hM.me
  exact ⟨⟨Q, hCB.old⟩, ⟨j, _, vr, pa, pc, F, hme, rfl, rfl, fun _ _ e => e⟩, hCB.ahead.1, hCB.l.1⟩
theorem CutO.add {w wr : World} {m m2 d key k nw B : Nat} {P P2 l : List Pr} {aa : Option Addr} {ac : Nat} {la : Option Addr} {lc : Nat} (h : CutO w wr m m2 d key k nw B P P2 l aa ac la lc) (hk : k < 48) (hkey : key < 18446744073709551616) (hF : Fact P P2 l) (hok : PrOk l) :
    Calls Tryz.prog 13 #[.pointer (some ⟨m2, 0, none⟩), .slice la l.length lc] wr fun e w' => e = .returned (.int .i64 0) ∧ (∀ i, B ≤ i → i < wr.heap.size → w'.heap[i]? = wr.heap[i]?) ∧ PrV w' la l.length lc l ∧ ∃ P3 nr, CutE w w' m2 d nr P3 ∧ (P2 ≠ P → P3 = P2) ∧ (∀ p ∈ l, lookP P3 p.1 = some p.2) ∧ P3.length ≤ 3000 ∧ nr ≤ 4 := by
  obtain ⟨Q, rs, runs, top, S, j, hCB, hM, hC, hc, _, hB⟩ := h
  obtain ⟨hr, _, _, hll, dd, news, hg, hp, ho, h0, hnw, hn0, hP2⟩ := hF
  have htp := hC.tp
  have hn := hC.n
  have hw := hC.wr
  refine (yadd_any Q wr m2 d j _ rs _ false S hM hCB.lt (fun _ => rfl) la l.length lc l hCB.l.1 hok (show ∀ p ∈ P2, p.1 ≠ 0 from hC.good.2.2) (by omega) hkey (show top + 1 < 100 by omega) (show ∀ x ∈ runs, x < 100 from fun x hx => by have := hC.rg x hx; omega) hC.rl
    (by
      have : S.bs (nmB key (top + 1)) = [] := by unfold DG.bs; rw [hC.run0 (by omega)]; rfl
      show (S.bs (nmB key (top + 1))).length ≤ _
      rw [this]; exact Nat.zero_le _) (by omega) (by omega) (hC.hlay (by omega) l l.length hll)).mono ?_
  rintro e w' ⟨hT, er, g', rs', sz', jc', S', rfl, hR, hM'⟩
  obtain ⟨rfl, rs3, runs3, top3, P3, hC3, rfl, hP3, hlk, hne⟩ := hC.again (by omega) hc hll hr hg hp ho h0 hnw hn0 hP2 hR
  have hlen3 := hC3.len
  have hrl3 := hC3.rl
  exact ⟨rfl, fun i h1 h2 => hT.block i h2 (fun hq => by have := hB i hq; omega), (hCB.l.turn hT).1, P3, runs3.length, ⟨_, key, rs', sz', jc', rs3, runs3, top3, S', j, k + 2, hM', hC3, by omega, rfl, hne, hCB.below.trans (hT.below hCB.below.size hCB.lo)⟩, fun e => hP3 (hP2.resolve_left e), hlk, by omega, hrl3⟩
theorem CutE.kept {w wr W : World} {m2 d nr : Nat} {P3 : List Pr} (h : CutE w wr m2 d nr P3) (hW : Below wr.heap.size wr W) : CutE w W m2 d nr P3 := by
  obtain ⟨Q, key, rs', sz, jc, rs, runs, top, S, j, k, hM, hC, h1, h2, h3, hB⟩ := h
  exact ⟨Q, key, rs', sz, jc, rs, runs, top, S, j, k, hM.below hW, hC, h1, h2, h3, hB.trans (hW.mono hB.size)⟩
theorem CutE.me {w wr : World} {m2 d nr : Nat} {P3 : List Pr} (h : CutE w wr m2 d nr P3) : MeP wr (fun _ => False) m2 d P3 false ∧ Below w.heap.size w wr := by
  obtain ⟨Q, key, rs', sz, jc, rs, runs, top, S, j, k, hM, hC, h1, h2, h3, hB⟩ := h
  obtain ⟨vr, pa, pc, F, hme⟩ := hM.me
  exact ⟨⟨j, _, vr, pa, pc, F, hme, rfl, rfl, fun _ _ e => e⟩, hB⟩
theorem CutE.names {w wr : World} {m2 d nr : Nat} {P3 : List Pr} (h : CutE w wr m2 d nr P3) :
    Calls Tryz.prog 26 #[.pointer (some ⟨d, 0, none⟩)] wr fun e w' => ∃ a c, e = .returned (.slice a (nr + 1) c) ∧ Below wr.heap.size wr w' := by
  obtain ⟨Q, key, rs', sz, jc, rs, runs, top, S, j, k, hM, hC, h1, rfl, h3, hB⟩ := h
  obtain ⟨G, hd, _⟩ := hM.parts
  have hn := hC.n
  refine (names_any d S G wr hd (by omega)).mono ?_
  rintro e w' ⟨ns, a, c, rfl, hL, _, hW⟩
  rw [hC.count h1 h3 hL]
  exact ⟨a, c, rfl, hW⟩
theorem CutE.runs {w wr : World} {m2 d nr : Nat} {P3 : List Pr} (h : CutE w wr m2 d nr P3) :
    Calls Tryz.prog 31 #[.pointer (some ⟨m2, 0, none⟩)] wr fun e w' => ∃ a c, e = .returned (.slice a nr c) ∧ Below wr.heap.size wr w' := by
  obtain ⟨Q, key, rs', sz, jc, rs, runs, top, S, j, k, hM, hC, h1, rfl, h3, hB⟩ := h
  obtain ⟨vr, pa, pc, F, hme⟩ := hM.me
  have := hC.rl
  refine (mruns_any wr m2 d j _ vr pa pc F hme (show runs.length ≤ 1000 by omega)).mono ?_
  rintro e w' ⟨ad, c, rfl, _, hW⟩
  exact ⟨ad, c, rfl, hW⟩
end Go.Proofs.YtdjodigimhgklaaGreatDoor
