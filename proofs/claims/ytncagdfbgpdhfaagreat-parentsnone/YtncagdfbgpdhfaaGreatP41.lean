import Derived.Test.YtncagdfbgpdhfaaGreatP40
import Derived.Deep.RegionHeld3
import Derived.Test.YtncagdfbgpdhfaaGreatP37
import Derived.Test.YtncagdfbgpdhfaaGreatP34
import Derived.ProofKit
import Derived.OpenShut
import Derived.ShutString
import Derived.ChangeOld
import Derived.SizedLaws
import Derived.Deep.Slices
/- The walk of the document's Depth. -/
namespace Go.Proofs.YtncagdfbgpdhfaaGreat
open Go.RowKit Go.Maps

attribute [local go_sem] Oper.semAt_some

/-- the greatest among those of a list that stand among ps -/
def runM (V : Int → Int) (ps : List Int) : List Int → Int → Int
  | [], s => s
  | x :: r, s => runM V ps r (if ps.contains x = true ∧ s < V x then V x else s)
theorem runM_drop (V : Int → Int) (ps l : List Int) (k : Nat) (x s : Int) (h : l[k]? = some x) : runM V ps (l.drop k) s = runM V ps (l.drop (k + 1)) (if ps.contains x = true ∧ s < V x then V x else s) := by
  have hk := (List.getElem?_eq_some_iff.1 h).1
  rw [List.drop_eq_getElem_cons hk]
  have : l[k] = x := (List.getElem?_eq_some_iff.1 h).2
  rw [this]
  rfl
theorem runM_ge {V : Int → Int} {ps : List Int} : ∀ (l : List Int) (s : Int), s ≤ runM V ps l s ∧ ∀ x ∈ l, x ∈ ps → V x ≤ runM V ps l s
  | [], s => by simp [runM]
  | y :: r, s => by
    simp only [runM]
    obtain ⟨h1, h2⟩ := runM_ge (V := V) (ps := ps) r (if ps.contains y = true ∧ s < V y then V y else s)
    refine ⟨?_, fun x hx hp => ?_⟩
    · refine Int.le_trans ?_ h1
      split
      · omega
      · omega
    · rcases List.mem_cons.1 hx with e | e
      · subst e
        refine Int.le_trans ?_ h1
        have hc : ps.contains x = true := by simpa using hp
        split
        · omega
        · rename_i hh
          have : ¬ s < V x := fun e => hh ⟨hc, e⟩
          omega
      · exact h2 x e hp
theorem runM_is {V : Int → Int} {ps : List Int} : ∀ (l : List Int) (s : Int), runM V ps l s = s ∨ ∃ x ∈ ps, runM V ps l s = V x
  | [], s => .inl rfl
  | y :: r, s => by
    simp only [runM]
    rcases runM_is (V := V) (ps := ps) r (if ps.contains y = true ∧ s < V y then V y else s) with h | h
    · rw [h]
      split
      · rename_i hh
        exact .inr ⟨y, by simpa using hh.1, rfl⟩
      · exact .inl rfl
    · exact .inr h
theorem maxD_ge {f : Int → Int} : ∀ (l : List Int) (s : Int), s ≤ maxD f l s ∧ ∀ p ∈ l, f p ≤ maxD f l s
  | [], s => by simp [maxD]
  | q :: r, s => by
    simp only [maxD]
    obtain ⟨h1, h2⟩ := maxD_ge (f := f) r (if s < f q then f q else s)
    refine ⟨?_, fun p hp => ?_⟩
    · refine Int.le_trans ?_ h1; split <;> omega
    · rcases List.mem_cons.1 hp with e | e
      · subst e; refine Int.le_trans ?_ h1; split <;> omega
      · exact h2 p e
theorem maxD_is {f : Int → Int} : ∀ (l : List Int) (s : Int), maxD f l s = s ∨ ∃ p ∈ l, maxD f l s = f p
  | [], s => .inl rfl
  | q :: r, s => by
    simp only [maxD]
    rcases maxD_is (f := f) r (if s < f q then f q else s) with h | ⟨p, hp, h⟩
    · rw [h]
      split
      · exact .inr ⟨q, by simp, rfl⟩
      · exact .inl rfl
    · exact .inr ⟨p, by simp [hp], h⟩
theorem runM_max {V : Int → Int} {ps L : List Int} (hp : ∀ p ∈ ps, p ∈ L) : runM V ps L 0 = maxD V ps 0 := by
  obtain ⟨a1, a2⟩ := runM_ge (V := V) (ps := ps) L 0
  obtain ⟨b1, b2⟩ := maxD_ge (f := V) ps 0
  have h1 : runM V ps L 0 ≤ maxD V ps 0 := by
    rcases runM_is (V := V) (ps := ps) L 0 with h | ⟨x, hx, h⟩
    · omega
    · rw [h]; exact b2 x hx
  have h2 : maxD V ps 0 ≤ runM V ps L 0 := by
    rcases maxD_is (f := V) ps 0 with h | ⟨x, hx, h⟩
    · omega
    · rw [h]; exact a2 x (hp x hx) hx
  omega
/-- a row of numbers along an order: told up to i, m at i, 0 behind -/
structure DR (V : Int → Int) (ord : List Int) (i : Nat) (m : Int) (ds : List Int) : Prop where
  len : ds.length = ord.length
  pre : ∀ (j : Nat) x, j < i → ord[j]? = some x → ds[j]? = some (V x)
  at_ : i < ord.length → ds[i]? = some m
  post : ∀ j, i < j → j < ord.length → ds[j]? = some 0
theorem DR.set {V : Int → Int} {ord : List Int} {i : Nat} {m : Int} {ds : List Int} (h : DR V ord i m ds) (v : Int) : DR V ord i v (ds.set i v) := by
  refine ⟨by simp [h.len], fun j x hj hx => ?_, fun hi => ?_, fun j h1 h2 => ?_⟩
  · rw [List.getElem?_set_ne (by omega)]; exact h.pre j x hj hx
  · rw [List.getElem?_set_self (by rw [h.len]; exact hi)]
  · rw [List.getElem?_set_ne (by omega)]; exact h.post j h1 h2
theorem DR.next {V : Int → Int} {ord : List Int} {i : Nat} {x : Int} {ds : List Int} (hx : ord[i]? = some x) (h : DR V ord i (V x) ds) : DR V ord (i + 1) 0 ds := by
  have hi := (List.getElem?_eq_some_iff.1 hx).1
  refine ⟨h.len, fun j y hj hy => ?_, fun h1 => h.post (i + 1) (by omega) h1, fun j h1 h2 => h.post j (by omega) h2⟩
  by_cases e : j = i
  · subst e; rw [hx] at hy; cases hy; exact h.at_ hi
  · exact h.pre j y (by omega) hy
theorem DR.start (V : Int → Int) (ord : List Int) (n : Nat) (hn : ord.length = n) : DR V ord 0 0 (List.replicate n 0) := by
  subst hn
  exact ⟨by simp, fun j x h => by omega, fun h => by simp [h], fun j _ h => by simp [h]⟩
end Go.Proofs.YtncagdfbgpdhfaaGreat

/- The walk of the document's Lines. -/
namespace Go.Proofs.YtncagdfbgpdhfaaGreat
open Go.RowKit Go.Maps

attribute [local go_sem] Oper.semAt_some

/-- ways added up to 2^62 -/
def addW (s v : Int) : Int := s + (if v ≤ 4611686018427387904 - s then v else 4611686018427387904 - s)
theorem addW_in {s v : Int} (h : 0 ≤ s ∧ s ≤ 4611686018427387904) (hv : 0 ≤ v) : 0 ≤ addW s v ∧ addW s v ≤ 4611686018427387904 := by unfold addW; split <;> omega
theorem addW_min {s v : Int} : addW s v = if s + v < 4611686018427387904 then s + v else 4611686018427387904 := by
  unfold addW
  split <;> split <;> omega
end Go.Proofs.YtncagdfbgpdhfaaGreat

/- The walk of Between. -/
namespace Go.Proofs.YtncagdfbgpdhfaaGreat
open Go.RowKit Go.Maps

attribute [local go_sem] Oper.semAt_some

/-- what some heads have behind others -/
def btwG (os : List Ob) (have' want : List Int) : GR := (ordG os have' GS.none).then fun gs => (ordG os want gs).then fun g2 => .ok ⟨g2.been, g2.ord.drop gs.ord.length⟩
end Go.Proofs.YtncagdfbgpdhfaaGreat

/- The walk of the document's Order. -/
namespace Go.Proofs.YtncagdfbgpdhfaaGreat
open Go.RowKit Go.Maps

attribute [local go_sem] Oper.semAt_some

theorem stN_none : stN [] [] = GS.none := by simp [stN, GS.none]
/-- what stands while heads are gone through -/
structure OI (w wr : World) (ns : List Nd) (ord : List Int) (oa : Option Addr) (oc : Nat) : Prop where
  bel : Below w.heap.size w wr
  row : wr.ownsRow w.heap.size 31 1 (.slice oa ord.length oc) ord.length (ord.map (Value.int .u64))
  ok : OrdOk ns ord []
set_option maxRecDepth 100000 in
set_option maxHeartbeats 8000000 in
theorem order11_any (w : World) (na : Option Addr) (N nc : Nat) (ns : List Nd) (hE : NEnv w na N ns) (hN : ns.length = N) (F0 : Nat) (hF : N < F0) (a : Option Addr) (n c : Nat) (l : List Int) (hl : Ids w a n l) (hn : n ≤ 1000) :
    Calls Tryz.prog 12 #[.slice na N nc, .slice a n c] w fun e w' => (Below w.heap.size w w' ∧ ∀ gs, goL (visit (parsN ns) (errN ns) F0) l GS.none = .ok gs → gs.ord.length ≤ 1000) ∧ LOut w (goL (visit (parsN ns) (errN ns) F0) l GS.none) e w' := by
  have hll := hl.1
  obtain ⟨E, hEv⟩ : ∃ E, E = goL (visit (parsN ns) (errN ns) F0) l GS.none := ⟨_, rfl⟩
  rw [← hEv]
  have HV : Hid (E = goL (visit (parsN ns) (errN ns) F0) l (stN [] [])) := by rw [stN_none]; exact hEv
  have HL : Hid (Ids w a n l ∧ l.length = n) := ⟨hl, hll⟩
  have HEn : Hid (NEnv w na N ns ∧ ns.length = N ∧ N < F0) := ⟨hE, hN, hF⟩
  have hN1 := hE.len
  clear hEv hl hll hE hN hF
  go_enter Tryz.func12, Tryz.ntmps12
  go_wp2
  go_loopg [6, 7] n (fun g v i wr => ∃ (q : Nat) (ord2 : List Int) (OL2 : Nat) (oa2 : Option Addr) (oc2 : Nat), q + g = n ∧ q ≤ n ∧ v = .slice oa2 OL2 oc2 ∧ i = .int .i64 (q : Int) ∧ Hid (ord2.length = OL2 ∧ OI w wr ns ord2 oa2 oc2 ∧ E = goL (visit (parsN ns) (errN ns) F0) (l.drop q) (stN ord2 [])))
  case atStart => exact ⟨0, [], 0, none, 0, by omega, Nat.zero_le _, rfl, rfl, rfl, ⟨Below.refl _ _, World.ownsRow_nil _ _ _ _, ⟨by simp, by simp, by simp, by simp, by simp⟩⟩, HV.out⟩
  case round =>
    clear HV
    obtain ⟨q, ord2, OL2, oa2, oc2, hqg, hq, rfl, rfl, H⟩ := hrel
    cases gk with
    | zero =>
      obtain rfl : q = n := by omega
      have j3 : ¬ (q : Int) < (q : Int) := by omega
      have HF : Hid ((Below w.heap.size w wr ∧ ∀ gs, E = .ok gs → gs.ord.length ≤ 1000) ∧ LOut w E (.returned (.tuple #[.slice oa2 OL2 oc2, .int .i64 0])) wr) := by
        obtain ⟨h1, h2, h3⟩ := H.out
        rw [List.drop_of_length_le (by rw [HL.out.2]; exact Nat.le_refl _)] at h3
        rw [h3]
        refine ⟨⟨h2.bel, fun gs hgs => ?_⟩, oa2, oc2, ?_, h2.row⟩
        · have h4 : stN ord2 [] = gs := by simpa [goL] using hgs
          have h5 := h2.ok.len.1
          rw [← h4]
          show ord2.length ≤ 1000
          have := HEn.out.2.1
          omega
        show _ = Ending.returned (.tuple #[.slice oa2 ord2.length oc2, .int .i64 0])
        rw [h1]
      clear H
      go_wp2
      go_ret2
      exact HF.out
    | succ gk =>
      have hql : q < n := by omega
      obtain ⟨p, hp⟩ : ∃ p, l[q]? = some p := ⟨_, List.getElem?_eq_getElem (by rw [HL.out.2]; exact hql)⟩
      obtain ⟨pb, po, hxa, hcp⟩ := HL.out.1.2 (by omega)
      subst hxa
      obtain ⟨hl2, hOI, hEE⟩ := H.out
      have q3 := (hOI.bel.cell (p := ⟨pb, po + q, none⟩) (World.block_lt_of_cell? w _ (hcp q p hp))).trans (hcp q p hp)
      have j3 : (q : Int) < (n : Int) := by omega
      have j4 : ¬ n ≤ q := by omega
      have hdr : l.drop q = p :: l.drop (q + 1) := by
        have hk1 := (List.getElem?_eq_some_iff.1 hp).1
        rw [List.drop_eq_getElem_cons hk1, (List.getElem?_eq_some_iff.1 hp).2]
      rw [hdr] at hEE
      have hcall := from_any w na N nc ns HEn.out.1 HEn.out.2.1 F0 HEn.out.2.2 F0 wr hOI.bel p ord2 [] (by simp) oa2 none oc2 0 hOI.row ⟨rfl, fun h => by simp at h⟩ hOI.ok rfl
      rw [hl2] at hcall
      cases hR : visit (parsN ns) (errN ns) F0 p (stN ord2 []) with
      | bad er =>
        have hE2 : E = .bad er := by rw [hEE, goL, hR]; rfl
        rw [hR] at hcall
        have HT : Hid (∀ w7, Turn (fun z => (Value.slice oa2 OL2 oc2).ownBlock = some z) wr w7 → Below w.heap.size w w7) := fun w7 h7 => hOI.bel.trans (h7.below hOI.bel.size fun z hz => (hOI.row.lt z (by rw [hl2]; exact hz)).1)
        clear H hcp hp hOI hEE hdr hR
        subst hE2
        go_wp2_with (go_at_call 38; refine hcall.mono ?_; clear hcall; rintro e W4 ⟨ht4, he4, hne4⟩; subst he4; have HT4 : Hid _ := HT.out W4 ht4; have hb4 : (er == 0) = false := beq_eq_false_iff_ne.2 hne4; have HNE : Hid (er ≠ 0) := hne4; clear ht4)
        go_ret2
        exact ⟨⟨HT4.out, fun _ h => by cases h⟩, rfl, HNE.out⟩
      | ok s4 =>
        rw [hR] at hcall
        have HT : Hid (∀ w7 ord7 a7 c7, Turn (fun z => (Value.slice oa2 OL2 oc2).ownBlock = some z) wr w7 → s4 = stN ord7 [] → OrdOk ns ord7 [] → w7.ownsRow w.heap.size 31 1 (.slice a7 ord7.length c7) ord7.length (ord7.map (Value.int .u64)) → OI w w7 ns ord7 a7 c7 ∧ E = goL (visit (parsN ns) (errN ns) F0) (l.drop (q + 1)) (stN ord7 [])) := fun w7 ord7 a7 c7 h1 h2 h3 h4 => by
          refine ⟨⟨hOI.bel.trans (h1.below hOI.bel.size fun z hz => (hOI.row.lt z (by rw [hl2]; exact hz)).1), h4, h3⟩, ?_⟩
          rw [hEE, goL, hR, h2]; rfl
        have HQ : Hid (q + 1 + gk = n ∧ q + 1 ≤ n) := ⟨by omega, by omega⟩
        clear H hcp hp hOI hEE hdr hR
        go_wp2_with (go_at_call 38; refine hcall.mono ?_; clear hcall; rintro e W4 ⟨ht4, ord7, a7, c7, hs7, hk7, he4, hr7, hg7⟩; subst he4; have HT4 := HT.out W4 ord7 a7 c7 ht4 hs7 hk7 hr7; have HH4 : Hid _ := HT4; generalize hO7 : ord7.length = OL7 at *; have HO7 : Hid (ord7.length = OL7) := hO7; clear ht4 hs7 hk7 hr7 hg7 HT HT4 hO7)
        go_roundg gk
        case measure => omega
        case rel => exact ⟨q + 1, ord7, OL7, a7, c7, HQ.out.1, HQ.out.2, rfl, by simp, HO7.out, HH4.out.1, HH4.out.2⟩
end Go.Proofs.YtncagdfbgpdhfaaGreat

/- Commits and numbers that came in, opened. -/
namespace Go.Proofs.YtncagdfbgpdhfaaGreat
open Go.ChangeShapes Go.WideShapes Go.ChangeAt Go.RowKit

theorem ints_cell {H : Type} {enc : TypeId × Value → H} {W : World} {fuel : Nat} {v : Value} {x : DataW H × List MemPlace} (hf : DataW.trod enc Tryz.prog W 0 (fun _ => true) true fuel 23 [v] = some x) :
    ∃ a n cap l, v = .slice a n cap ∧ Ints W a n l ∧ (∀ x ∈ l, -9223372036854775808 ≤ x ∧ x ≤ 9223372036854775807) ∧ n ≤ cap ∧ n ≤ 9223372036854775807 ∧ (a = none → n = 0 ∧ cap = 0) := by
  rcases open_ints Tryz.underlying23 Tryz.underlying3 (by kernel_rfl) hf with ⟨hcs, _⟩ | ⟨x, n, cap, zs, hcs, _, hl, hm, hz, hx, hcell, hwz⟩
  · simp only [List.cons.injEq, and_true] at hcs
    subst hcs
    exact ⟨none, 0, 0, [], rfl, ⟨rfl, fun h0 => by omega⟩, fun x hx => (by simp at hx), Nat.le_refl _, by omega, fun _ => ⟨rfl, rfl⟩⟩
  · simp only [List.cons.injEq, and_true] at hcs
    subst hcs
    simp only [if_true] at hz
    refine ⟨some x, n, cap, zs.take n, rfl, ⟨by rw [List.length_take]; omega, fun h0 => ?_⟩, fun x hx => ?_, hl, by unfold maxLen at hm; omega, fun h => by cases h⟩
    · obtain ⟨b, off, spot⟩ := x
      have hc := hcell 0 (by omega)
      have hspot : spot = none := by simpa [Addr.add] using World.cell?_spot hc
      subst hspot
      refine ⟨b, off, rfl, fun i x hx => ?_⟩
      have hi : i < n := by have := (List.getElem?_eq_some_iff.1 hx).1; rw [List.length_take] at this; omega
      have hci := hcell i (by omega)
      rw [Addr.add_lit] at hci
      rw [hci]
      rw [List.getElem?_take_of_lt hi] at hx
      rw [List.getD_eq_getElem?_getD, hx]; rfl
    · have := bounds_i64 (hwz x (List.mem_of_mem_take hx))
      omega

set_option maxRecDepth 100000 in
theorem borns_arg {H : Type} {enc : TypeId × Value → H} {W : World} {base : Nat} {v : Value} {d : DataW H} {ps : List MemPlace} (hok : Value.okWide Tryz.prog W .any base 60 v)
    (h : DataW.Trod enc Tryz.prog W 0 (fun _ => true) true 60 v d ps) :
    ∃ a n cap l, v = .slice a n cap ∧ Brs W a n l ∧ n ≤ 9223372036854775807 := by
  obtain ⟨a, n, cap, rfl⟩ := okWide_slice Tryz.underlying60 hok
  obtain ⟨fuel, hf⟩ := h
  rcases Deep.open_slice Tryz.underlying60 hf with ⟨hcs, _⟩ | ⟨x, len, c, m, j, D, Pl, hcs, _, hl, hmx, hm, hx, hel⟩
  · simp [Value.cells] at hcs
    obtain ⟨rfl, rfl, rfl⟩ := hcs
    exact ⟨none, 0, 0, [], rfl, ⟨rfl, fun h0 => by omega⟩, by omega⟩
  · simp [Value.cells] at hcs
    obtain ⟨rfl, rfl, rfl⟩ := hcs
    simp only [if_true] at hm
    have hcell : ∀ i, i < n → ∃ o : BornD, ∃ ba bn bc, W.cell? (x.add (i * 5)) = some (.slice ba bn bc) ∧ W.cell? (x.add (i * 5 + 1)) = some (.int .i64 o.date) ∧ W.cell? (x.add (i * 5 + 2)) = some (.bool o.blob) ∧ W.cell? (x.add (i * 5 + 3)) = some (.bool o.lost) ∧ W.cell? (x.add (i * 5 + 4)) = some (.bool o.bare) ∧ Ints W ba bn o.back ∧ bn ≤ 9223372036854775807 ∧ -9223372036854775808 ≤ o.date ∧ o.date ≤ 9223372036854775807 := by
      intro i hi
      obtain ⟨cs', hc1, hc2⟩ := hel i (by omega)
      rw [show Tryz.prog.cellsOf 105 = 5 from by kernel_rfl] at hc1
      obtain ⟨xs, fu, _, _, _, hxl, hfl⟩ := DataW.trod_struct Tryz.underlying105 hc2
      obtain ⟨_, hlen2, hget⟩ := World.cells?_some hc1
      have e0 : Tryz.prog.cellsOf 23 = 1 := by kernel_rfl
      have e1 : Tryz.prog.cellsOf 2 = 1 := by kernel_rfl
      have e4 : Tryz.prog.cellsOf 4 = 1 := by kernel_rfl
      match cs', hlen2, xs, hxl with
      | [z0, z1, z2, z3, z4], _, [y0, y1, y2, y3, y4], _ =>
        have f0 : DataW.trod enc Tryz.prog W 0 (fun _ => true) true fu 23 [z0] = some y0 := by simpa [e0] using hfl 0 _ rfl
        have f1 : DataW.trod enc Tryz.prog W 0 (fun _ => true) true fu 2 [z1] = some y1 := by simpa [e1] using hfl 1 _ rfl
        have f2 : DataW.trod enc Tryz.prog W 0 (fun _ => true) true fu 4 [z2] = some y2 := by simpa [e4] using hfl 2 _ rfl
        have f3 : DataW.trod enc Tryz.prog W 0 (fun _ => true) true fu 4 [z3] = some y3 := by simpa [e4] using hfl 3 _ rfl
        have f4 : DataW.trod enc Tryz.prog W 0 (fun _ => true) true fu 4 [z4] = some y4 := by simpa [e4] using hfl 4 _ rfl
        obtain ⟨k1, c1, _, w1⟩ := DataW.trod_int Tryz.underlying2 f1
        obtain ⟨b2, c2, _⟩ := DataW.trod_bool Tryz.underlying4 f2
        obtain ⟨b3, c3, _⟩ := DataW.trod_bool Tryz.underlying4 f3
        obtain ⟨b4, c4, _⟩ := DataW.trod_bool Tryz.underlying4 f4
        simp only [List.cons.injEq, and_true] at c1 c2 c3 c4
        subst c1 c2 c3 c4
        obtain ⟨pa, pn, pc, l, e, hI, _, _, h2, _⟩ := ints_cell f0
        subst e
        have g0 := hget 0 (by simp)
        have g1 := hget 1 (by simp)
        have g2 := hget 2 (by simp)
        have g3 := hget 3 (by simp)
        have g4 := hget 4 (by simp)
        rw [Deep.add_add] at g0 g1 g2 g3 g4
        have hw1 := bounds_i64 w1
        exact ⟨⟨l, k1, b2, b3, b4⟩, pa, pn, pc, by simpa using g0, by simpa using g1, by simpa using g2, by simpa using g3, by simpa using g4, hI, h2, hw1.1, hw1.2⟩
    haveI : Inhabited BornD := ⟨⟨[], 0, false, false, false⟩⟩
    obtain ⟨g, hg⟩ := Deep.choose_lt hcell
    refine ⟨some x, n, cap, (List.range n).map g, rfl, ⟨by simp, fun h0 => ?_⟩, by unfold maxLen at hmx; omega⟩
    obtain ⟨b, off, spot⟩ := x
    obtain ⟨_, _, _, hc, _⟩ := hg 0 h0
    have hspot : spot = none := by simpa [Addr.add] using World.cell?_spot hc
    subst hspot
    refine ⟨b, off, rfl, fun i y hy => ?_⟩
    have hi : i < n := by have := (List.getElem?_eq_some_iff.1 hy).1; simpa using this
    have ey : y = g i := by
      rw [List.getElem?_map, List.getElem?_range hi] at hy
      exact (Option.some.inj hy).symm
    subst ey
    obtain ⟨ba, bn, bc, e1, e2, e3, e4, e5, hr⟩ := hg i hi
    rw [Addr.add_lit] at e1 e2 e3 e4 e5
    rw [← Nat.add_assoc] at e2 e3 e4 e5
    exact ⟨ba, bn, bc, e1, e2, e3, e4, e5, hr⟩
set_option maxRecDepth 100000 in
theorem ints_arg {H : Type} {enc : TypeId × Value → H} {W : World} {base : Nat} {v : Value} {d : DataW H} {ps : List MemPlace} (hok : Value.okWide Tryz.prog W .any base 23 v)
    (h : DataW.Trod enc Tryz.prog W 0 (fun _ => true) true 23 v d ps) :
    ∃ a n cap l, v = .slice a n cap ∧ Ints W a n l ∧ (∀ x ∈ l, -9223372036854775808 ≤ x ∧ x ≤ 9223372036854775807) ∧ n ≤ 9223372036854775807 := by
  obtain ⟨a, n, cap, rfl⟩ := okWide_slice Tryz.underlying23 hok
  obtain ⟨fuel, hf⟩ := h
  have hf' : DataW.trod enc Tryz.prog W 0 (fun _ => true) true fuel 23 [.slice a n cap] = some (d, ps) := by simpa [Value.cells] using hf
  obtain ⟨a', n', c', l, e, h1, h2, _, h3, _⟩ := ints_cell hf'
  exact ⟨a', n', c', l, e, h1, h2, h3⟩
end Go.Proofs.YtncagdfbgpdhfaaGreat
