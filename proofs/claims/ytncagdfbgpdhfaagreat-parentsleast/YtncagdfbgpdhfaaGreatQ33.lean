import Derived.Test.YtncagdfbgpdhfaaGreatQ32
import Derived.Deep.RegionHeld3
import Derived.Test.YtncagdfbgpdhfaaGreatQ28
import Derived.Test.YtncagdfbgpdhfaaGreatQ24
import Derived.Lib.SlBytesConst
import Derived.Test.YtncagdfbgpdhfaaGreatQ30
import Derived.Test.YtncagdfbgpdhfaaGreatQ31
/- The walk of the document's Depth. -/
namespace Go.Proofs.YtncagdfbgpdhfaaGreat
open Go.RowKit Go.Maps

attribute [local go_sem] Oper.semAt_some

/-- the greatest among those of a list that stand among ps -/
def runM (V : Int → Int) (ps : List Int) : List Int → Int → Int
  | [], s => s
  | x :: r, s => runM V ps r (if ps.contains x = true ∧ s < V x then V x else s)
theorem runM_drop (V : Int → Int) (ps l : List Int) (k : Nat) (x s : Int) (h : l[k]? = some x) : runM V ps (l.drop k) s = runM V ps (l.drop (k + 1)) (if ps.contains x = true ∧ s < V x then V x else s) := by
  have hk := (List.getElem?_eq_some_iff.1 h).1
  rw [List.drop_eq_getElem_cons hk]
  have : l[k] = x := (List.getElem?_eq_some_iff.1 h).2
  rw [this]
  rfl
theorem runM_ge {V : Int → Int} {ps : List Int} : ∀ (l : List Int) (s : Int), s ≤ runM V ps l s ∧ ∀ x ∈ l, x ∈ ps → V x ≤ runM V ps l s
  | [], s => by simp [runM]
  | y :: r, s => by
    simp only [runM]
    obtain ⟨h1, h2⟩ := runM_ge (V := V) (ps := ps) r (if ps.contains y = true ∧ s < V y then V y else s)
    refine ⟨?_, fun x hx hp => ?_⟩
    · refine Int.le_trans ?_ h1
      split
      · omega
      · omega
    · rcases List.mem_cons.1 hx with e | e
      · subst e
        refine Int.le_trans ?_ h1
        have hc : ps.contains x = true := by simpa using hp
        split
        · omega
        · rename_i hh
          have : ¬ s < V x := fun e => hh ⟨hc, e⟩
          omega
      · exact h2 x e hp
theorem runM_is {V : Int → Int} {ps : List Int} : ∀ (l : List Int) (s : Int), runM V ps l s = s ∨ ∃ x ∈ ps, runM V ps l s = V x
  | [], s => .inl rfl
  | y :: r, s => by
    simp only [runM]
    rcases runM_is (V := V) (ps := ps) r (if ps.contains y = true ∧ s < V y then V y else s) with h | h
    · rw [h]
      split
      · rename_i hh
        exact .inr ⟨y, by simpa using hh.1, rfl⟩
      · exact .inl rfl
    · exact .inr h
theorem maxD_ge {f : Int → Int} : ∀ (l : List Int) (s : Int), s ≤ maxD f l s ∧ ∀ p ∈ l, f p ≤ maxD f l s
  | [], s => by simp [maxD]
  | q :: r, s => by
    simp only [maxD]
    obtain ⟨h1, h2⟩ := maxD_ge (f := f) r (if s < f q then f q else s)
    refine ⟨?_, fun p hp => ?_⟩
    · refine Int.le_trans ?_ h1; split <;> omega
    · rcases List.mem_cons.1 hp with e | e
      · subst e; refine Int.le_trans ?_ h1; split <;> omega
      · exact h2 p e
theorem maxD_is {f : Int → Int} : ∀ (l : List Int) (s : Int), maxD f l s = s ∨ ∃ p ∈ l, maxD f l s = f p
  | [], s => .inl rfl
  | q :: r, s => by
    simp only [maxD]
    rcases maxD_is (f := f) r (if s < f q then f q else s) with h | ⟨p, hp, h⟩
    · rw [h]
      split
      · exact .inr ⟨q, by simp, rfl⟩
      · exact .inl rfl
    · exact .inr ⟨p, by simp [hp], h⟩
theorem runM_max {V : Int → Int} {ps L : List Int} (hp : ∀ p ∈ ps, p ∈ L) : runM V ps L 0 = maxD V ps 0 := by
  obtain ⟨a1, a2⟩ := runM_ge (V := V) (ps := ps) L 0
  obtain ⟨b1, b2⟩ := maxD_ge (f := V) ps 0
  have h1 : runM V ps L 0 ≤ maxD V ps 0 := by
    rcases runM_is (V := V) (ps := ps) L 0 with h | ⟨x, hx, h⟩
    · omega
    · rw [h]; exact b2 x hx
  have h2 : maxD V ps 0 ≤ runM V ps L 0 := by
    rcases maxD_is (f := V) ps 0 with h | ⟨x, hx, h⟩
    · omega
    · rw [h]; exact a2 x (hp x hx) hx
  omega
/-- a row of numbers along an order: told up to i, m at i, 0 behind -/
structure DR (V : Int → Int) (ord : List Int) (i : Nat) (m : Int) (ds : List Int) : Prop where
  len : ds.length = ord.length
  pre : ∀ (j : Nat) x, j < i → ord[j]? = some x → ds[j]? = some (V x)
  at_ : i < ord.length → ds[i]? = some m
  post : ∀ j, i < j → j < ord.length → ds[j]? = some 0
theorem DR.set {V : Int → Int} {ord : List Int} {i : Nat} {m : Int} {ds : List Int} (h : DR V ord i m ds) (v : Int) : DR V ord i v (ds.set i v) := by
  refine ⟨by simp [h.len], fun j x hj hx => ?_, fun hi => ?_, fun j h1 h2 => ?_⟩
  · rw [List.getElem?_set_ne (by omega)]; exact h.pre j x hj hx
  · rw [List.getElem?_set_self (by rw [h.len]; exact hi)]
  · rw [List.getElem?_set_ne (by omega)]; exact h.post j h1 h2
theorem DR.next {V : Int → Int} {ord : List Int} {i : Nat} {x : Int} {ds : List Int} (hx : ord[i]? = some x) (h : DR V ord i (V x) ds) : DR V ord (i + 1) 0 ds := by
  have hi := (List.getElem?_eq_some_iff.1 hx).1
  refine ⟨h.len, fun j y hj hy => ?_, fun h1 => h.post (i + 1) (by omega) h1, fun j h1 h2 => h.post j (by omega) h2⟩
  by_cases e : j = i
  · subst e; rw [hx] at hy; cases hy; exact h.at_ hi
  · exact h.pre j y (by omega) hy
theorem DR.start (V : Int → Int) (ord : List Int) (n : Nat) (hn : ord.length = n) : DR V ord 0 0 (List.replicate n 0) := by
  subst hn
  exact ⟨by simp, fun j x h => by omega, fun h => by simp [h], fun j _ h => by simp [h]⟩
end Go.Proofs.YtncagdfbgpdhfaaGreat

/- The walk of the document's Lines. -/
namespace Go.Proofs.YtncagdfbgpdhfaaGreat
open Go.RowKit Go.Maps

attribute [local go_sem] Oper.semAt_some

/-- ways added up to 2^62 -/
def addW (s v : Int) : Int := s + (if v ≤ 4611686018427387904 - s then v else 4611686018427387904 - s)
theorem addW_in {s v : Int} (h : 0 ≤ s ∧ s ≤ 4611686018427387904) (hv : 0 ≤ v) : 0 ≤ addW s v ∧ addW s v ≤ 4611686018427387904 := by unfold addW; split <;> omega
theorem addW_min {s v : Int} : addW s v = if s + v < 4611686018427387904 then s + v else 4611686018427387904 := by
  unfold addW
  split <;> split <;> omega
end Go.Proofs.YtncagdfbgpdhfaaGreat

/- The walk of Between. -/
namespace Go.Proofs.YtncagdfbgpdhfaaGreat
open Go.RowKit Go.Maps

attribute [local go_sem] Oper.semAt_some

/-- what some heads have behind others -/
def btwG (os : List Ob) (have' want : List Int) : GR := (ordG os have' GS.none).then fun gs => (ordG os want gs).then fun g2 => .ok ⟨g2.been, g2.ord.drop gs.ord.length⟩
end Go.Proofs.YtncagdfbgpdhfaaGreat

/- The walk of the document's Order. -/
namespace Go.Proofs.YtncagdfbgpdhfaaGreat
open Go.RowKit Go.Maps

attribute [local go_sem] Oper.semAt_some

theorem stN_none : stN [] [] = GS.none := by simp [stN, GS.none]
/-- what stands while heads are gone through -/
structure OI (w wr : World) (ns : List Nd) (ord : List Int) (oa : Option Addr) (oc : Nat) : Prop where
  bel : Below w.heap.size w wr
  row : wr.ownsRow w.heap.size 31 1 (.slice oa ord.length oc) ord.length (ord.map (Value.int .u64))
  ok : OrdOk ns ord []
set_option maxRecDepth 100000 in
set_option maxHeartbeats 8000000 in
theorem order11_any (w : World) (na : Option Addr) (N nc : Nat) (ns : List Nd) (hE : NEnv w na N ns) (hN : ns.length = N) (F0 : Nat) (hF : N < F0) (a : Option Addr) (n c : Nat) (l : List Int) (hl : Ids w a n l) (hn : n ≤ 1000) :
    Calls Tryz.prog 12 #[.slice na N nc, .slice a n c] w fun e w' => (Below w.heap.size w w' ∧ ∀ gs, goL (visit (parsN ns) (errN ns) F0) l GS.none = .ok gs → gs.ord.length ≤ 1000) ∧ LOut w (goL (visit (parsN ns) (errN ns) F0) l GS.none) e w' := by
  have hll := hl.1
  obtain ⟨E, hEv⟩ : ∃ E, E = goL (visit (parsN ns) (errN ns) F0) l GS.none := ⟨_, rfl⟩
  rw [← hEv]
  have HV : Hid (E = goL (visit (parsN ns) (errN ns) F0) l (stN [] [])) := by rw [stN_none]; exact hEv
  have HL : Hid (Ids w a n l ∧ l.length = n) := ⟨hl, hll⟩
  have HEn : Hid (NEnv w na N ns ∧ ns.length = N ∧ N < F0) := ⟨hE, hN, hF⟩
  have hN1 := hE.len
  clear hEv hl hll hE hN hF
  go_enter Tryz.func12, Tryz.ntmps12
  go_wp2
  go_loopg [6, 7] n (fun g v i wr => ∃ (q : Nat) (ord2 : List Int) (OL2 : Nat) (oa2 : Option Addr) (oc2 : Nat), q + g = n ∧ q ≤ n ∧ v = .slice oa2 OL2 oc2 ∧ i = .int .i64 (q : Int) ∧ Hid (ord2.length = OL2 ∧ OI w wr ns ord2 oa2 oc2 ∧ E = goL (visit (parsN ns) (errN ns) F0) (l.drop q) (stN ord2 [])))
  case atStart => exact ⟨0, [], 0, none, 0, by omega, Nat.zero_le _, rfl, rfl, rfl, ⟨Below.refl _ _, World.ownsRow_nil _ _ _ _, ⟨by simp, by simp, by simp, by simp, by simp⟩⟩, HV.out⟩
  case round =>
    clear HV
    obtain ⟨q, ord2, OL2, oa2, oc2, hqg, hq, rfl, rfl, H⟩ := hrel
    cases gk with
    | zero =>
      obtain rfl : q = n := by omega
      have j3 : ¬ (q : Int) < (q : Int) := by omega
      have HF : Hid ((Below w.heap.size w wr ∧ ∀ gs, E = .ok gs → gs.ord.length ≤ 1000) ∧ LOut w E (.returned (.tuple #[.slice oa2 OL2 oc2, .int .i64 0])) wr) := by
        obtain ⟨h1, h2, h3⟩ := H.out
        rw [List.drop_of_length_le (by rw [HL.out.2]; exact Nat.le_refl _)] at h3
        rw [h3]
        refine ⟨⟨h2.bel, fun gs hgs => ?_⟩, oa2, oc2, ?_, h2.row⟩
        · have h4 : stN ord2 [] = gs := by simpa [goL] using hgs
          have h5 := h2.ok.len.1
          rw [← h4]
          show ord2.length ≤ 1000
          have := HEn.out.2.1
          omega
        show _ = Ending.returned (.tuple #[.slice oa2 ord2.length oc2, .int .i64 0])
        rw [h1]
      clear H
      go_wp2
      go_ret2
      exact HF.out
    | succ gk =>
      have hql : q < n := by omega
      obtain ⟨p, hp⟩ : ∃ p, l[q]? = some p := ⟨_, List.getElem?_eq_getElem (by rw [HL.out.2]; exact hql)⟩
      obtain ⟨pb, po, hxa, hcp⟩ := HL.out.1.2 (by omega)
      subst hxa
      obtain ⟨hl2, hOI, hEE⟩ := H.out
      have q3 := (hOI.bel.cell (p := ⟨pb, po + q, none⟩) (World.block_lt_of_cell? w _ (hcp q p hp))).trans (hcp q p hp)
      have j3 : (q : Int) < (n : Int) := by omega
      have j4 : ¬ n ≤ q := by omega
      have hdr : l.drop q = p :: l.drop (q + 1) := by
        have hk1 := (List.getElem?_eq_some_iff.1 hp).1
        rw [List.drop_eq_getElem_cons hk1, (List.getElem?_eq_some_iff.1 hp).2]
      rw [hdr] at hEE
      have hcall := from_any w na N nc ns HEn.out.1 HEn.out.2.1 F0 HEn.out.2.2 F0 wr hOI.bel p ord2 [] (by simp) oa2 none oc2 0 hOI.row ⟨rfl, fun h => by simp at h⟩ hOI.ok rfl
      rw [hl2] at hcall
      cases hR : visit (parsN ns) (errN ns) F0 p (stN ord2 []) with
      | bad er =>
        have hE2 : E = .bad er := by rw [hEE, goL, hR]; rfl
        rw [hR] at hcall
        have HT : Hid (∀ w7, Turn (fun z => (Value.slice oa2 OL2 oc2).ownBlock = some z) wr w7 → Below w.heap.size w w7) := fun w7 h7 => hOI.bel.trans (h7.below hOI.bel.size fun z hz => (hOI.row.lt z (by rw [hl2]; exact hz)).1)
        clear H hcp hp hOI hEE hdr hR
        subst hE2
        go_wp2_with (go_at_call 38; refine hcall.mono ?_; clear hcall; rintro e W4 ⟨ht4, he4, hne4⟩; subst he4; have HT4 : Hid _ := HT.out W4 ht4; have hb4 : (er == 0) = false := beq_eq_false_iff_ne.2 hne4; have HNE : Hid (er ≠ 0) := hne4; clear ht4)
        go_ret2
        exact ⟨⟨HT4.out, fun _ h => by cases h⟩, rfl, HNE.out⟩
      | ok s4 =>
        rw [hR] at hcall
        have HT : Hid (∀ w7 ord7 a7 c7, Turn (fun z => (Value.slice oa2 OL2 oc2).ownBlock = some z) wr w7 → s4 = stN ord7 [] → OrdOk ns ord7 [] → w7.ownsRow w.heap.size 31 1 (.slice a7 ord7.length c7) ord7.length (ord7.map (Value.int .u64)) → OI w w7 ns ord7 a7 c7 ∧ E = goL (visit (parsN ns) (errN ns) F0) (l.drop (q + 1)) (stN ord7 [])) := fun w7 ord7 a7 c7 h1 h2 h3 h4 => by
          refine ⟨⟨hOI.bel.trans (h1.below hOI.bel.size fun z hz => (hOI.row.lt z (by rw [hl2]; exact hz)).1), h4, h3⟩, ?_⟩
          rw [hEE, goL, hR, h2]; rfl
        have HQ : Hid (q + 1 + gk = n ∧ q + 1 ≤ n) := ⟨by omega, by omega⟩
        clear H hcp hp hOI hEE hdr hR
        go_wp2_with (go_at_call 38; refine hcall.mono ?_; clear hcall; rintro e W4 ⟨ht4, ord7, a7, c7, hs7, hk7, he4, hr7, hg7⟩; subst he4; have HT4 := HT.out W4 ord7 a7 c7 ht4 hs7 hk7 hr7; have HH4 : Hid _ := HT4; generalize hO7 : ord7.length = OL7 at *; have HO7 : Hid (ord7.length = OL7) := hO7; clear ht4 hs7 hk7 hr7 hg7 HT HT4 hO7)
        go_roundg gk
        case measure => omega
        case rel => exact ⟨q + 1, ord7, OL7, a7, c7, HQ.out.1, HQ.out.2, rfl, by simp, HO7.out, HH4.out.1, HH4.out.2⟩
end Go.Proofs.YtncagdfbgpdhfaaGreat

/- The walk of the law's wakes. -/
namespace Go.Proofs.YtncagdfbgpdhfaaGreat
open Go.RowKit Go.Shelf Go.Maps

attribute [local go_sem] Oper.semAt_some

/-- a blob of bytes that lie in memory -/
theorem blob_at {W : World} {a : Option Addr} {b : List UInt8} {c : Nat} (hb : Bytes W a b.length b) (hnil : a = none → b.length = 0 ∧ c = 0) (hl : b.length ≤ 4096) : ObS (.blob b) (.iface 82 (.agg #[.slice a b.length c])) W :=
  ⟨⟨a, c, rfl, hb, hnil, by omega⟩, trivial⟩
theorem snew_any (w : World) : Calls Tryz.prog 34 #[] w fun e w' => e = .returned (.pointer (some ⟨w.heap.size + 1, 0, none⟩)) ∧ ∃ G, IsDisk w' (w.heap.size + 1) ⟨fun _ => none, 0, 0, false, 0⟩ G ∧ (∀ k, G k → w.heap.size ≤ k) ∧ Below w.heap.size w w' := by
  refine (new_any w).mono ?_
  rintro e w' ⟨he, hd, hB⟩
  exact ⟨he, _, hd, fun k hk => by rcases hk with h | h <;> omega, hB⟩
theorem lit_two (W : World) (x y : UInt8) (fz : Nat × Nat) : Bytes (W.alloc (.cells #[.int .u8 (x.toNat : Int), .int .u8 (y.toNat : Int)] 5 fz)) (some ⟨W.heap.size, 0, none⟩) 2 [x, y] := by
  have hb := World.alloc_heap_new W (.cells #[.int .u8 (x.toNat : Int), .int .u8 (y.toNat : Int)] 5 fz)
  generalize W.alloc (.cells #[.int .u8 (x.toNat : Int), .int .u8 (y.toNat : Int)] 5 fz) = W' at hb
  refine ⟨rfl, fun _ => ⟨W.heap.size, 0, rfl, fun i hi => ?_⟩⟩
  match i, hi with
  | 0, _ => simp [World.cell?, hb, bt]
  | 1, _ => simp [World.cell?, hb, bt]
theorem findO_one (o : Ob) : findO [o] (oid o) = some o := by simp [findO]
theorem sput_blob (w : World) (s d : Nat) (os : List Ob) (S : DG) (F G : Nat → Prop) (h : StG w s d os S F G) (a : Option Addr) (n c : Nat) (b : List UInt8) (hb : Bytes w a n b) (hnil : a = none → n = 0 ∧ c = 0) (ha : 0 < n → ∀ x, a = some x → ¬ (F x.block ∨ G x.block)) (hl : n ≤ 4096) (hf : findO os (oid (.blob b)) = none) (hn : os.length < 65536) (hfit : (recB (98 :: b)).length + (fileB (os.map obB)).length ≤ 4194304) :
    Calls Tryz.prog 36 #[.pointer (some ⟨s, 0, none⟩), .iface 82 (.agg #[.slice a n c])] w fun e w' => e = .returned (.tuple #[.int .u64 (oid (.blob b)), .int .i64 0]) ∧ Turn (fun k => F k ∨ G k) w w' ∧ ∃ S' F' G', StG w' s d (os ++ [.blob b]) S' F' G' ∧ (∀ k, F' k → F k ∨ w.heap.size ≤ k) ∧ (∀ k, G' k → G k ∨ w.heap.size ≤ k) := by
  have hll := hb.1
  subst hll
  exact sput_good w s d os S F G h _ (.blob b) (fun W hT => blob_at (hT.bytes hb ha) hnil hl) (blob_pure b hl).1 hf hn hfit
end Go.Proofs.YtncagdfbgpdhfaaGreat

/- What becomes of a store into which an object is put that may be there; the empty tree. -/
namespace Go.Proofs.YtncagdfbgpdhfaaGreat
open Go.RowKit Go.Shelf Go.Maps

attribute [local go_sem] Oper.semAt_some

theorem file_bound (os : List Ob) (h : ∀ o ∈ os, (obB o).length ≤ 16384) : (fileB (os.map obB)).length ≤ os.length * 16402 := by
  induction os with
  | nil => simp [fileB]
  | cons o os ih =>
    have h1 := ih (fun p hp => h p (by simp [hp]))
    have h2 := h o (by simp)
    have h3 := (recB_pos (obB o)).2
    have e : (fileB ((o :: os).map obB)).length = (recB (obB o)).length + (fileB (os.map obB)).length := by simp [fileB]
    rw [e, List.length_cons, Nat.add_mul]
    omega
/-- how Put ends -/
def POut (w : World) (s d : Nat) (F G : Nat → Prop) (o : Ob) (R : Option (List Ob)) (e : Ending) (w' : World) : Prop := match R with
  | none => e = .returned (.tuple #[.int .u64 0, .int .i64 7])
  | some os' => e = .returned (.tuple #[.int .u64 (oid o), .int .i64 0]) ∧ ∃ S' F' G', StG w' s d os' S' F' G' ∧ (∀ k, F' k → F k ∨ w.heap.size ≤ k) ∧ (∀ k, G' k → G k ∨ w.heap.size ≤ k)
theorem gput_any (w : World) (s d : Nat) (os : List Ob) (S : DG) (F G : Nat → Prop) (h : StG w s d os S F G) (v : Value) (o : Ob) (hv : ∀ W, Turn (fun k => F k ∨ G k) w W → ObS o v W) (h0 : obErr o = 0) (hn : os.length ≤ 200) (hlen : ∀ p ∈ os, (obB p).length ≤ 16384) :
    Calls Tryz.prog 36 #[.pointer (some ⟨s, 0, none⟩), v] w fun e w' => Turn (fun k => F k ∨ G k) w w' ∧ POut w s d F G o (putG os o) e w' := by
  have hv0 := hv w (Turn.refl _ _)
  have hl0 := obB_len hv0.1 h0
  unfold putG
  cases hf : findO os (oid o) with
  | none =>
    have hfb := file_bound os hlen
    have hrp := (recB_pos (obB o)).2
    refine (sput_good w s d os S F G h v o hv h0 hf (by omega) (by omega)).mono ?_
    rintro e w' ⟨he, hT, S', F', G', h1, h2, h3⟩
    exact ⟨hT, he, S', F', G', h1, h2, h3⟩
  | some p =>
    have h9 := h
    obtain ⟨j, b, M, u, FJ, O, hst⟩ := h.st
    refine (sput_there w s d j b M u _ os _ false FJ O F hst v o p hv0.1 h0 hf).mono ?_
    rintro e w' ⟨he, hB⟩
    refine ⟨Turn.of_below _ hB, ?_⟩
    by_cases hp : obB p = obB o
    · simp only [hp, if_true] at he ⊢
      exact ⟨he, S, F, G, h9.below hB, fun k hk => .inl hk, fun k hk => .inl hk⟩
    · simp only [hp, if_false] at he ⊢
      exact he
theorem empty_ob (W : World) : ObS (.tree []) (.iface 125 (.agg #[.slice none 0 0])) W := ⟨⟨none, 0, rfl, ⟨rfl, fun h => absurd h (by simp)⟩, ⟨fun j x hx => by simp at hx, fun j x hx => by simp at hx⟩, by simp⟩, fun ad cp e _ => by cases e; exact ⟨rfl, rfl⟩⟩
theorem empty_err : obErr (.tree []) = 0 := by decide
theorem empty_any (w : World) (s d : Nat) (S : DG) (F G : Nat → Prop) (h : StG w s d [] S F G) :
    Calls Tryz.prog 35 #[.pointer (some ⟨s, 0, none⟩)] w fun e w' => e = .returned (.tuple #[.int .u64 emptyI, .int .i64 0]) ∧ Turn (fun k => F k ∨ G k) w w' ∧ ∃ S' F' G', StG w' s d [.tree []] S' F' G' ∧ (∀ k, F' k → F k ∨ w.heap.size ≤ k) ∧ (∀ k, G' k → G k ∨ w.heap.size ≤ k) := by
  have hx : Calls Tryz.prog 36 #[.pointer (some ⟨s, 0, none⟩), .iface 125 (.agg #[.slice none 0 0])] w fun e w' => e = .returned (.tuple #[.int .u64 emptyI, .int .i64 0]) ∧ Turn (fun k => F k ∨ G k) w w' ∧ ∃ S' F' G', StG w' s d [.tree []] S' F' G' ∧ (∀ k, F' k → F k ∨ w.heap.size ≤ k) ∧ (∀ k, G' k → G k ∨ w.heap.size ≤ k) :=
    (gput_any w s d [] S F G h _ (.tree []) (fun W _ => empty_ob W) empty_err (by simp) (by simp)).mono fun e w' hx => ⟨hx.2.1, hx.1, hx.2.2⟩
  generalize emptyI = E at *
  go_enter Tryz.func35, Tryz.ntmps35
  go_wp2_with (go_at_call 36; refine hx.mono ?_; clear hx; rintro e w1 ⟨rfl, hR⟩; have HR : Hid (Turn (fun k => F k ∨ G k) w w1 ∧ ∃ S' F' G', StG w1 s d [.tree []] S' F' G' ∧ (∀ k, F' k → F k ∨ w.heap.size ≤ k) ∧ (∀ k, G' k → G k ∨ w.heap.size ≤ k)) := hR; clear hR)
  go_ret2
  exact ⟨rfl, HR.out⟩
end Go.Proofs.YtncagdfbgpdhfaaGreat

/- What stands within a round of born: the commit as it was handed in, and the commit that is made of it. -/
namespace Go.Proofs.YtncagdfbgpdhfaaGreat
open Go.RowKit Go.Maps

structure BR (w : World) (hb s d : Nat) (e0 : Int) (st : BS) (S : DG) (F G X : Nat → Prop) (nv iv bv : Value) (ns : List Nd) (B8 B9 : Nat) (ba : Option Addr) (bn bc : Nat) (b : BornD) (wx : World) (tv : Int) (pv : Value) (ps : List Int) : Prop where
  I : BI w wx hb s d e0 st S F G X nv iv bv ns
  b8 : wx.heap[B8]? = some (.cells #[.slice ba bn bc, .int .i64 b.date, .bool b.blob, .bool b.lost, .bool b.bare] 105)
  b9 : wx.heap[B9]? = some (.cells #[.int .u64 tv, pv, .string ⟨#[]⟩, .int .i64 b.date, .string ⟨#[]⟩] 78)
  row : wx.ownsRow w.heap.size 31 1 pv ps.length (ps.map (Value.int .u64))
  n8 : ¬ BOwn hb nv iv bv X F G B8
  n9 : ¬ BOwn hb nv iv bv X F G B9
  n89 : B8 ≠ B9
  pn : ∀ g, pv.ownBlock = some g → ¬ BOwn hb nv iv bv X F G g ∧ g ≠ B8 ∧ g ≠ B9
  g8 : w.heap.size ≤ B8
  g9 : w.heap.size ≤ B9
theorem five_cells {W : World} {n : Nat} {a b c d e : Value} {t : TypeId} (h : W.heap[n]? = some (.cells #[a, b, c, d, e] t)) : W.cell? ⟨n, 0, none⟩ = some a ∧ W.cell? ⟨n, 1, none⟩ = some b ∧ W.cell? ⟨n, 2, none⟩ = some c ∧ W.cell? ⟨n, 3, none⟩ = some d ∧ W.cell? ⟨n, 4, none⟩ = some e := by
  simp [World.cell?, h]
theorem five_frozen {W : World} {n : Nat} {a b c d e : Value} {t : TypeId} (h : W.heap[n]? = some (.cells #[a, b, c, d, e] t)) (j : Nat) : W.frozen? ⟨n, j, none⟩ = false := by
  simp [World.frozen?, h]
theorem lt_of_block {W : World} {n : Nat} {o : Obj} (h : W.heap[n]? = some o) : n < W.heap.size := (Array.getElem?_eq_some_iff.1 h).1
theorem BR.new {w wr : World} {hb s d : Nat} {e0 : Int} {st : BS} {S : DG} {F G X : Nat → Prop} {nv iv bv : Value} {ns : List Nd} (I : BI w wr hb s d e0 st S F G X nv iv bv ns) (ba : Option Addr) (bn bc : Nat) (b : BornD) (tv : Int) :
    BR w hb s d e0 st S F G X nv iv bv ns wr.heap.size (wr.heap.size + 1) ba bn bc b ((wr.alloc (.cells #[.slice ba bn bc, .int .i64 b.date, .bool b.blob, .bool b.lost, .bool b.bare] 105)).alloc (.cells #[.int .u64 tv, .slice none 0 0, .string ⟨#[]⟩, .int .i64 b.date, .string ⟨#[]⟩] 78)) tv (.slice none 0 0) [] := by
  have hB := I.B.size
  exact
  { I := I.below (((Below.refl _ wr).alloc (Nat.le_refl _) _).alloc (by simp) _)
    b8 := by rw [Below.heap_alloc _ _ _ (by simp)]; exact World.alloc_heap_new _ _
    b9 := by
      have := World.alloc_heap_new (wr.alloc (.cells #[.slice ba bn bc, .int .i64 b.date, .bool b.blob, .bool b.lost, .bool b.bare] 105)) (.cells #[.int .u64 tv, .slice none 0 0, .string ⟨#[]⟩, .int .i64 b.date, .string ⟨#[]⟩] 78)
      rw [World.size_alloc] at this
      exact this
    row := World.ownsRow_nil _ _ _ _
    n8 := fun h => by have := (I.olt _ h).1; omega
    n9 := fun h => by have := (I.olt _ h).1; omega
    n89 := by omega
    pn := fun g hg => by cases hg
    g8 := hB
    g9 := by omega }
/-- a parent more -/
theorem BR.app {w : World} {hb s d : Nat} {e0 : Int} {st : BS} {S : DG} {F G X : Nat → Prop} {nv iv bv : Value} {ns : List Nd} {B8 B9 : Nat} {ba : Option Addr} {bn bc : Nat} {b : BornD} {wx : World} {tv : Int} {pv : Value} {ps : List Int} (R : BR w hb s d e0 st S F G X nv iv bv ns B8 B9 ba bn bc b wx tv pv ps) (x : Int) {w3 : World} (v' : Value)
    (hrow : w3.ownsRow w.heap.size 31 1 v' (ps.length + 1) (ps.map (Value.int .u64) ++ [.int .u64 x])) (hT : Turn (fun k => pv.ownBlock = some k) wx w3) (hv : ∀ g, v'.ownBlock = some g → pv.ownBlock = some g ∨ wx.heap.size ≤ g) :
    BR w hb s d e0 st S F G X nv iv bv ns B8 B9 ba bn bc b (w3.setCell ⟨B9, 1, none⟩ v') tv v' (ps ++ [x]) := by
  have h8 := lt_of_block R.b8
  have h9 := lt_of_block R.b9
  have k9 : w3.heap[B9]? = wx.heap[B9]? := hT.block B9 h9 (fun e => (R.pn B9 e).2.2 rfl)
  have hset : ∀ k, k ≠ B9 → (w3.setCell ⟨B9, 1, none⟩ v').heap[k]? = w3.heap[k]? := fun k hk => Below.heap_setCell _ _ _ _ (by exact hk)
  have hTw : Turn (fun k => pv.ownBlock = some k ∨ k = B9) wx (w3.setCell ⟨B9, 1, none⟩ v') := ⟨hT.os, hT.tape, hT.output, by rw [World.size_setCell]; exact hT.size, fun k hk hn => (hset k (fun e => hn (.inr e))).trans (hT.block k hk (fun e => hn (.inl e)))⟩
  have hBw : Below w.heap.size w (w3.setCell ⟨B9, 1, none⟩ v') := R.I.B.trans (hTw.below R.I.B.size (fun k hk => by
    rcases hk with h | h
    · exact (R.row.lt k h).1
    · rw [h]; exact R.g9))
  exact
  { I := R.I.turn hTw (fun k hk h => by
      rcases h with h | h
      · exact (R.pn k h).1 hk
      · rw [h] at hk; exact R.n9 hk) hBw
    b8 := by rw [hset B8 R.n89, hT.block B8 h8 (fun e => (R.pn B8 e).2.1 rfl)]; exact R.b8
    b9 := by
      have h1 := k9.trans R.b9
      exact heap_setCell_same w3 B9 1 #[.int .u64 tv, pv, .string ⟨#[]⟩, .int .i64 b.date, .string ⟨#[]⟩] 78 v' h1
    row := by
      have e : (ps ++ [x]).length = ps.length + 1 := by simp
      rw [e, List.map_append]
      refine row_moved hrow fun g hg => hset g (fun e => ?_)
      rcases hv g hg with h | h
      · exact (R.pn g h).2.2 e
      · omega
    n8 := R.n8
    n9 := R.n9
    n89 := R.n89
    pn := fun g hg => by
      rcases hv g hg with h | h
      · exact R.pn g h
      · exact ⟨fun h' => by have := (R.I.olt g h').1; omega, by omega, by omega⟩
    g8 := R.g8
    g9 := R.g9 }
/-- another tree -/
theorem BR.tree {w : World} {hb s d : Nat} {e0 : Int} {st : BS} {S : DG} {F G X : Nat → Prop} {nv iv bv : Value} {ns : List Nd} {B8 B9 : Nat} {ba : Option Addr} {bn bc : Nat} {b : BornD} {wx : World} {tv : Int} {pv : Value} {ps : List Int} (R : BR w hb s d e0 st S F G X nv iv bv ns B8 B9 ba bn bc b wx tv pv ps) (t : Int) :
    BR w hb s d e0 st S F G X nv iv bv ns B8 B9 ba bn bc b (wx.setCell ⟨B9, 0, none⟩ (.int .u64 t)) t pv ps := by
  have h8 := lt_of_block R.b8
  have hset : ∀ k, k ≠ B9 → (wx.setCell ⟨B9, 0, none⟩ (.int .u64 t)).heap[k]? = wx.heap[k]? := fun k hk => Below.heap_setCell _ _ _ _ (by exact hk)
  have hTw : Turn (fun k => k = B9) wx (wx.setCell ⟨B9, 0, none⟩ (.int .u64 t)) := ⟨rfl, rfl, rfl, by rw [World.size_setCell]; exact Nat.le_refl _, fun k _ hn => hset k hn⟩
  exact
  { R with
    I := R.I.turn hTw (fun k hk h => R.n9 (h ▸ hk)) (R.I.B.trans (hTw.below R.I.B.size (fun k hk => by rw [hk]; exact R.g9)))
    b8 := by rw [hset B8 R.n89]; exact R.b8
    b9 := heap_setCell_same wx B9 0 #[.int .u64 tv, pv, .string ⟨#[]⟩, .int .i64 b.date, .string ⟨#[]⟩] 78 (.int .u64 t) R.b9
    row := row_moved R.row fun g hg => hset g (R.pn g hg).2.2 }
theorem BR.below {w : World} {hb s d : Nat} {e0 : Int} {st : BS} {S : DG} {F G X : Nat → Prop} {nv iv bv : Value} {ns : List Nd} {B8 B9 : Nat} {ba : Option Addr} {bn bc : Nat} {b : BornD} {wx w' : World} {tv : Int} {pv : Value} {ps : List Int} (R : BR w hb s d e0 st S F G X nv iv bv ns B8 B9 ba bn bc b wx tv pv ps) (hB : Below wx.heap.size wx w') :
    BR w hb s d e0 st S F G X nv iv bv ns B8 B9 ba bn bc b w' tv pv ps :=
  { R with
    I := R.I.below hB
    b8 := (hB.block _ (lt_of_block R.b8)).trans R.b8
    b9 := (hB.block _ (lt_of_block R.b9)).trans R.b9
    row := row_moved R.row fun g hg => hB.block g (R.row.lt g hg).2 }
end Go.Proofs.YtncagdfbgpdhfaaGreat
