import Derived.Test.YtojpbemfbjkjjaaGreatT44
import Derived.Test.YtojpbemfbjkjjaaGreatT45
import Derived.Test.YtojpbemfbjkjjaaGreatT41
/- Plain facts for GraphTells: how many parents there are, how great ways get, what the last of an order is. -/
namespace Go.Proofs.YtojpbemfbjkjjaaGreat
open Go.RowKit Go.Maps

theorem parsG_seven (ids : List Int) (b : BornD) : (parsG ids b).length ≤ 7 ∨ (54321 : Int) ∈ parsG ids b := by
  unfold parsG
  cases b.lost with
  | true => right; simp
  | false =>
    left
    simp only [Bool.false_eq_true, if_false, List.append_nil]
    unfold backs
    split
    · simp
    · rw [List.length_map, List.length_take]; omega
/-- a commit has at most seven parents, or one that is not there -/
structure N7 (st : BS) : Prop where
  par : ∀ i ps, lookT st.nodes i = some (some ps) → ps.length ≤ 7 ∨ (54321 : Int) ∈ ps
  los : lookT st.nodes 54321 = none
theorem N7.step {st st' : BS} {b : BornD} (h : N7 st) (hs : stepB emptyI st b = some st') : N7 st' := by
  unfold stepB at hs
  generalize obG emptyI st.ids b = o at *
  cases hp : putG st.os o with
  | none => rw [hp] at hs; cases hs
  | some os' =>
    rw [hp] at hs
    simp only at hs
    split at hs
    · cases hs
    · rename_i hne
      simp only [Option.some.injEq] at hs
      subst hs
      cases hh : hasN st.nodes (oid o) with
      | true => exact ⟨by simpa using h.par, by simpa using h.los⟩
      | false =>
        have hlk : lookT st.nodes (oid o) = none := by
          rw [hasN_look] at hh
          cases hl : lookT st.nodes (oid o) with
          | none => rfl
          | some y => rw [hl] at hh; cases hh
        simp only [Bool.false_eq_true, if_false]
        refine ⟨fun i ps hi => ?_, ?_⟩
        · have hi' : lookT (st.nodes ++ [(oid o, parsG st.ids b, b.blob)]) i = some (some ps) := hi
          rw [lookT_snoc _ _ _ hlk] at hi'
          by_cases h1 : i = oid o
          · rw [if_pos h1] at hi'
            simp only [Option.some.injEq] at hi'
            split at hi'
            · cases hi'
            · simp only [Option.some.injEq] at hi'
              subst hi'
              exact parsG_seven _ _
          · rw [if_neg h1] at hi'
            exact h.par i ps hi'
        · show lookT (st.nodes ++ [(oid o, parsG st.ids b, b.blob)]) 54321 = none
          rw [lookT_snoc _ _ _ hlk, if_neg (fun e => hne (.inr e.symm))]
          exact h.los
theorem N7.go : ∀ (l : List BornD) (st st' : BS), N7 st → bornL emptyI l st = some st' → N7 st'
  | [], st, st', h, e => by simp only [bornL, Option.some.injEq] at e; subst e; exact h
  | b :: r, st, st', h, e => by
    simp only [bornL] at e
    cases hs : stepB emptyI st b with
    | none => rw [hs] at e; cases e
    | some s1 => rw [hs] at e; exact N7.go r s1 st' (h.step hs) e
theorem bornG_n7 {l : List BornD} {st : BS} (h : bornG l = some st) : N7 st := N7.go _ _ _ ⟨by simp [lookT], rfl⟩ h
theorem parsN_told {ns : List Nd} {nodes : List (Int × List Int × Bool)} (hn : ns.map Nd.told = nodes) {i : Int} {ps : List Int} (h : parsN ns i = some ps) : lookT nodes i = some (some ps) := by
  rw [parsN_look, hn] at h
  cases hl : lookT nodes i with
  | none => rw [hl] at h; cases h
  | some y => rw [hl] at h; have : y = some ps := h; rw [this]
theorem ord_seven {st : BS} (h : NI st) (h7 : N7 st) (ns : List Nd) (hn : ns.map Nd.told = st.nodes) {l : List Int} {gs : GS} (ho : ordG st.os l GS.none = .ok gs) : ∀ x ∈ gs.ord, (psO st.os x).length ≤ 7 := by
  intro x hx
  obtain ⟨ps, h1, h2⟩ := node_par h ns hn ho x hx
  have e : psO st.os x = ps := by unfold psO; rw [h2]; rfl
  rw [e]
  rcases h7.par x ps (parsN_told hn h1) with h3 | h3
  · exact h3
  · exfalso
    obtain ⟨i, hi⟩ := List.getElem?_of_mem hx
    obtain ⟨j, _, hj⟩ := (ord_inv ho).topo.ahead i x hi 54321 (by rw [e]; exact h3)
    obtain ⟨qs, h4, _⟩ := node_par h ns hn ho 54321 (List.mem_of_getElem? hj)
    have := parsN_told hn h4
    rw [h7.los] at this
    cases this
theorem sumW_le {f : Int → Int} {B : Int} : ∀ (l : List Int) (s : Int), (∀ p ∈ l, f p ≤ B) → sumW f l s ≤ s + (l.length : Int) * B
  | [], s, _ => by simp [sumW]
  | p :: r, s, h => by
    simp only [sumW]
    have h1 := sumW_le (f := f) r (s + (if f p ≤ 4611686018427387904 - s then f p else 4611686018427387904 - s)) (fun q hq => h q (by simp [hq]))
    have h2 := h p (by simp)
    have h3 : s + (if f p ≤ 4611686018427387904 - s then f p else 4611686018427387904 - s) ≤ s + B := by split <;> omega
    rw [List.length_cons, Int.natCast_add, Int.add_mul]
    simp only [Int.natCast_one, Int.one_mul]
    omega
theorem ways_bound {os : List Ob} {l : List Int} {a : Int} {V : Int → Int} (hT : Topo (parsO os) l) (hV : ∀ x ∈ l, V x = if x = a then 1 else sumW V (psO os x) 0) (h7 : ∀ x ∈ l, (psO os x).length ≤ 7) : ∀ (n i : Nat) (x : Int), i < n → l[i]? = some x → V x ≤ ((7 ^ i : Nat) : Int) := by
  intro n
  induction n with
  | zero => intro i x h; omega
  | succ n ih =>
    intro i x hi hx
    have hm := List.mem_of_getElem? hx
    rw [hV x hm]
    have h1 : 1 ≤ 7 ^ i := Nat.one_le_pow _ _ (by omega)
    split
    · omega
    · cases i with
      | zero =>
        have : psO os x = [] := by
          apply List.eq_nil_iff_forall_not_mem.2
          intro p hp
          obtain ⟨j, hj, _⟩ := hT.ahead 0 x hx p hp
          omega
        rw [this]
        simp [sumW]
      | succ i =>
        have h2 := sumW_le (f := V) (B := ((7 ^ i : Nat) : Int)) (psO os x) 0 (fun p hp => by
          obtain ⟨j, hj, hpj⟩ := hT.ahead (i + 1) x hx p hp
          have h3 := ih j p (by omega) hpj
          have h4 : 7 ^ j ≤ 7 ^ i := Nat.pow_le_pow_right (by omega) (by omega)
          omega)
        have h5 := h7 x hm
        have h6 : (psO os x).length * 7 ^ i ≤ 7 * 7 ^ i := Nat.mul_le_mul_right _ h5
        have h8 : (((psO os x).length * 7 ^ i : Nat) : Int) = ((psO os x).length : Int) * ((7 ^ i : Nat) : Int) := Int.natCast_mul _ _
        rw [← h8] at h2
        have h9 : 7 ^ (i + 1) = 7 * 7 ^ i := by rw [Nat.pow_succ, Nat.mul_comm]
        rw [h9]
        omega
theorem maxD_in {f : Int → Int} {k : Int} (hf : InD f k) : ∀ (l : List Int) (s : Int), 0 ≤ s ∧ s ≤ k → 0 ≤ maxD f l s ∧ maxD f l s ≤ k
  | [], s, h => h
  | p :: r, s, h => by
    simp only [maxD]
    have := hf p
    exact maxD_in hf r _ (by split <;> omega)
theorem InD.dep : ∀ (l : List (Int × List Int)) (f : Int → Int) (k : Int), 0 ≤ k → InD f k → InD (depL l f) (k + l.length)
  | [], f, k, _, h => by simpa [depL] using h
  | m :: r, f, k, hk, h => by
    simp only [depL]
    have := InD.dep r (setG f m.1 (maxD f m.2 0 + 1)) (k + 1) (by omega) (h.set m.1 _ (maxD_in h m.2 0 (by omega)))
    rw [List.length_cons]
    have e : k + ((r.length + 1 : Nat) : Int) = k + 1 + (r.length : Int) := by omega
    rw [e]
    exact this
theorem ord_last {os : List Ob} {b : Int} {gs : GS} (h : ordG os [b] GS.none = .ok gs) : ∃ r, gs.ord = r ++ [b] := by
  unfold ordG at h
  have h0 : goL (visit (parsO os) (errO os) ((os.length + 1) + 1)) [b] GS.none = .ok gs := h
  clear h
  have h := h0
  clear h0
  generalize os.length + 1 = F at h
  simp only [goL] at h
  have h1 : GS.none.been b ≠ 1 := by simp [GS.none]
  have h2 : GS.none.been b ≠ 2 := by simp [GS.none]
  simp only [visit, if_neg h1, if_neg h2] at h
  cases hP : parsO os b with
  | none => rw [hP] at h; cases h
  | some ps =>
    rw [hP] at h
    simp only at h
    cases h3 : goL (visit (parsO os) (errO os) F) ps (GS.none.opn b) with
    | bad e => rw [h3] at h; cases h
    | ok s1 =>
      rw [h3] at h
      simp only [GR.ok_then, GR.ok.injEq] at h
      subst h
      exact ⟨s1.ord, rfl⟩
/-- what the document's Depth asks -/
theorem tells_depth {st : BS} (h : NI st) (ns : List Nd) (hn : ns.map Nd.told = st.nodes) {l : List Int} {gs : GS} (ho : ordG st.os l GS.none = .ok gs) (hos : st.os.length ≤ 25) :
    (∀ (i : Nat) x, gs.ord[i]? = some x → ∃ ps, parsN ns x = some ps ∧ depL (pairsO st.os gs.ord) (fun _ => 0) x = maxD (depL (pairsO st.os gs.ord) (fun _ => 0)) ps 0 + 1 ∧ ∀ p ∈ ps, ∃ j, j < i ∧ gs.ord[j]? = some p) ∧ ∀ x, 0 ≤ depL (pairsO st.os gs.ord) (fun _ => 0) x ∧ depL (pairsO st.os gs.ord) (fun _ => 0) x ≤ 100000 := by
  have hI := ord_inv ho
  have hD := (dep_fix hI.nd hI.topo.ahead).1
  refine ⟨fun i x hx => ?_, fun x => ?_⟩
  · obtain ⟨ps, h1, h2⟩ := node_par h ns hn ho x (List.mem_of_getElem? hx)
    have e : psO st.os x = ps := by unfold psO; rw [h2]; rfl
    have h3 := hD x (List.mem_of_getElem? hx)
    have h4 := hI.topo.ahead i x hx
    rw [e] at h3 h4
    exact ⟨ps, h1, h3, h4⟩
  · have h1 := InD.dep (pairsO st.os gs.ord) (fun _ => 0) 0 (by omega) (fun _ => ⟨Int.le_refl 0, Int.le_refl 0⟩) x
    have h2 := ord_len ho
    have h3 : (pairsO st.os gs.ord).length = gs.ord.length := by unfold pairsO; rw [List.length_map]
    rw [h3] at h1
    omega
/-- what the document's Lines asks, and what an ancestor is -/
theorem tells_lines {st : BS} (h : NI st) (h7 : N7 st) (ns : List Nd) (hn : ns.map Nd.told = st.nodes) (h24 : ns.length ≤ 24) {a b : Int} {g gb : GS} (ho : ordG st.os [a, b] GS.none = .ok g) (hb : ordG st.os [b] GS.none = .ok gb) :
    InW (waysL (pairsO st.os g.ord) (setG (fun _ => 0) a 1)) ∧
    (∀ (i : Nat) x, gb.ord[i]? = some x → ∃ ps, parsN ns x = some ps ∧ waysL (pairsO st.os g.ord) (setG (fun _ => 0) a 1) x = (if x = a then 1 else sumW (waysL (pairsO st.os g.ord) (setG (fun _ => 0) a 1)) ps 0) ∧ ∀ p ∈ ps, ∃ j, j < i ∧ gb.ord[j]? = some p) ∧
    (∀ (i : Nat) x, gb.ord[i]? = some x → i + 1 < gb.ord.length → waysL (pairsO st.os g.ord) (setG (fun _ => 0) a 1) x < 4611686018427387904) ∧
    0 < gb.ord.length ∧ gb.ord[gb.ord.length - 1]? = some b ∧ gb.ord.Nodup ∧ (decide (0 < linesG st.os g.ord a b) = gb.ord.contains a) := by
  have hI := ord_inv ho
  have hJ := ord_inv hb
  have hbg : b ∈ g.ord := ord_heads ho b (by simp)
  have hsub : ∀ y ∈ gb.ord, y ∈ g.ord := fun y hy => by
    obtain ⟨z, hz, h4⟩ := ord_anc hb y hy
    simp only [List.mem_singleton] at hz
    subst hz
    exact h4.mem hI.topo hbg
  have hV := ways_doc hI.topo hI.nd a
  have hA := ways_anc hI.topo hI.nd a b hbg
  have hW : InW (waysL (pairsO st.os g.ord) (setG (fun _ => 0) a 1)) := InW.ways _ _ (fun x => by unfold setG; split <;> simp)
  have hA' : 0 < linesG st.os g.ord a b ↔ Anc (parsO st.os) a b := hA
  generalize waysL (pairsO st.os g.ord) (setG (fun _ => 0) a 1) = V at *
  obtain ⟨r, hr⟩ := ord_last hb
  have hgl : gb.ord.length ≤ 24 := by
    have h1 := nodup_le gb.ord (ns.map Nd.id) hJ.nd (fun x hx => by
      obtain ⟨ps, h1, _⟩ := node_par h ns hn hb x hx
      exact parsN_mem ns x (by rw [h1]; rfl))
    rw [List.length_map] at h1
    omega
  refine ⟨hW, fun i x hx => ?_, fun i x hx hi => ?_, by rw [hr]; simp, by rw [hr]; simp, hJ.nd, ?_⟩
  · obtain ⟨ps, h1, h2⟩ := node_par h ns hn hb x (List.mem_of_getElem? hx)
    have e : psO st.os x = ps := by unfold psO; rw [h2]; rfl
    have h3 := hV x (hsub x (List.mem_of_getElem? hx))
    have h4 := hJ.topo.ahead i x hx
    rw [e] at h3 h4
    exact ⟨ps, h1, h3, h4⟩
  · have h1 := ways_bound (a := a) (V := V) hJ.topo (fun y hy => hV y (hsub y hy)) (ord_seven h h7 ns hn hb) (i + 1) i x (by omega) hx
    have h2 : 7 ^ i ≤ 7 ^ 22 := Nat.pow_le_pow_right (by omega) (by omega)
    have h3 : (7 : Nat) ^ 22 = 3909821048582988049 := by decide
    omega
  · have e : gb.ord.contains a = decide (a ∈ gb.ord) := by simp
    rw [e]
    apply decide_eq_decide.2
    rw [hA']
    constructor
    · intro h1
      exact h1.mem hJ.topo (ord_heads hb b (by simp))
    · intro h1
      obtain ⟨z, hz, h4⟩ := ord_anc hb a h1
      simp only [List.mem_singleton] at hz
      subst hz
      exact h4
theorem ord_two {os : List Ob} {a b : Int} {g : GS} (ho : ordG os [a, b] GS.none = .ok g) : ∃ gb, ordG os [b] GS.none = .ok gb := by
  obtain ⟨gb, h, _⟩ := ord_within (m := [b]) ho (fun x hx => ord_heads ho x (by simp at hx; subst hx; simp))
  exact ⟨gb, h⟩
theorem lit_ints (W : World) (x y : Int) (fz : Nat × Nat) : Ints (W.alloc (.cells #[.int .i64 x, .int .i64 y] 3 fz)) (some ⟨W.heap.size, 0, none⟩) 2 [x, y] := by
  have hb := World.alloc_heap_new W (.cells #[.int .i64 x, .int .i64 y] 3 fz)
  generalize W.alloc (.cells #[.int .i64 x, .int .i64 y] 3 fz) = W' at hb
  refine ⟨rfl, fun _ => ⟨W.heap.size, 0, rfl, fun i z hi => ?_⟩⟩
  match i, hi with
  | 0, hi => simp at hi; subst hi; simp [World.cell?, hb]
  | 1, hi => simp at hi; subst hi; simp [World.cell?, hb]
end Go.Proofs.YtojpbemfbjkjjaaGreat

/- The walk of the law GraphTells. -/
namespace Go.Proofs.YtojpbemfbjkjjaaGreat
open Go.RowKit Go.Maps

attribute [local go_sem] Oper.semAt_some

set_option maxRecDepth 100000 in
set_option maxHeartbeats 8000000 in
theorem graphTells_walk (w : World) (a : Option Addr) (n c : Nat) (l : List BornD) (hl : Brs w a n l) (hn : n ≤ 9223372036854775807) (x y : Int) (hx : -9223372036854775808 ≤ x ∧ x ≤ 9223372036854775807) (hy : -9223372036854775808 ≤ y ∧ y ≤ 9223372036854775807) :
    Calls Tryz.prog 3 #[.slice a n c, .int .i64 x, .int .i64 y] w fun e w' => e = .returned (.bool true) ∧ Below w.heap.size w w' := by
  have hw1 := gwakes_any w
  have HA : Hid (Brs w a n l ∧ (-9223372036854775808 ≤ x ∧ x ≤ 9223372036854775807) ∧ (-9223372036854775808 ≤ y ∧ y ≤ 9223372036854775807)) := ⟨hl, hx, hy⟩
  clear hl hx hy
  cases hG : bornG l with
  | none =>
    go_enter Tryz.func3, Tryz.ntmps3
    go_wp2_with fail
    refine hw1.mono ?_
    clear hw1
    rintro e w1 ⟨rfl, hB1⟩
    have hbo := born_any w1 a n c l (HA.out.1.below hB1) hn
    rw [hG] at hbo
    have H1 : Hid (Below w.heap.size w w1) := hB1
    clear hB1
    go_wp2_with fail
    refine hbo.mono ?_
    clear hbo
    rintro e w2 ⟨hB2, he⟩
    have he' : e = .returned (.tuple #[.pointer none, .bool true]) := he
    subst he'
    have H2 : Hid (Below w.heap.size w w2) := H1.out.trans (hB2.mono H1.out.size)
    clear hB2 he
    have hw3 := gwakes_any w2
    go_wp2_with fail
    refine hw3.mono ?_
    clear hw3
    rintro e w3 ⟨rfl, hB3⟩
    have H3 : Hid (Below w.heap.size w w3) := H2.out.trans (hB3.mono H2.out.size)
    clear hB3
    go_wp2
    go_ret
    exact ⟨rfl, H3.out⟩
  | some st =>
    have HNI : Hid (NI st) := bornG_ni hG
    have HN7 : Hid (N7 st) := bornG_n7 hG
    go_enter Tryz.func3, Tryz.ntmps3
    go_wp2_with fail
    refine hw1.mono ?_
    clear hw1
    rintro e w1 ⟨rfl, hB1⟩
    have hbo := born_any w1 a n c l (HA.out.1.below hB1) hn
    rw [hG] at hbo
    have H1 : Hid (Below w.heap.size w w1) := hB1
    clear hB1 hG
    go_wp2_with fail
    refine hbo.mono ?_
    clear hbo
    rintro e w2 ⟨hB2, hb, s, d, S, F, G, X, nv, iv, bv, ns, he, hI, ho5, hi5, hn5⟩
    subst he
    have H2 : Hid (Below w.heap.size w w2) := H1.out.trans (hB2.mono H1.out.size)
    obtain ⟨na, nc, ia, ic, e1, e2, h24, hEnv⟩ := hI.env hn5
    have HI2 : Hid (ns.map Nd.told = st.nodes ∧ BOk st ∧ st.ids.length ≤ 24 ∧ st.os.length ≤ 25 ∧ st.nodes.length ≤ 24) := ⟨hI.nn, hI.ok, hi5, ho5, hn5⟩
    have HEv : Hid (∀ W, Below w2.heap.size w2 W → (W.cell? ⟨hb, 0, none⟩ = some (.pointer (some ⟨s, 0, none⟩)) ∧ W.cell? ⟨hb, 1, none⟩ = some (.slice na ns.length nc) ∧ W.cell? ⟨hb, 2, none⟩ = some (.slice ia st.ids.length ic)) ∧ Ids W ia st.ids.length st.ids ∧ IsSt W s d st.os (fileB (st.os.map obB)).length false F ∧ NEnv W na ns.length ns) := hEnv
    clear hB2 hI hi5 ho5 hn5 hEnv e1 e2
    have hw3 := gwakes_any w2
    go_wp2_with fail
    refine hw3.mono ?_
    clear hw3
    rintro e w3 ⟨rfl, hB3⟩
    have H3 : Hid (Below w2.heap.size w2 w3) := hB3
    have H3w : Hid (Below w.heap.size w w3) := H2.out.trans (hB3.mono H2.out.size)
    clear hB3
    have hBL : Below w3.heap.size w3 (w3.alloc (.cells #[.int .i64 x, .int .i64 y] 3)) := (Below.refl _ w3).alloc (Nat.le_refl _) _
    have H3L : Hid (Below w2.heap.size w2 (w3.alloc (.cells #[.int .i64 x, .int .i64 y] 3))) := H3.out.trans (hBL.mono H3.out.size)
    obtain ⟨⟨c0, c1, c2⟩, hids, _, _⟩ := HEv.out _ H3L.out
    obtain ⟨A, hA⟩ : ∃ A, headId st.ids x = A := ⟨_, rfl⟩
    obtain ⟨B, hB⟩ : ∃ B, headId st.ids y = B := ⟨_, rfl⟩
    have hHS : headsG st.ids [x, y] = [A, B] := by unfold headsG; simp [hA, hB]
    obtain ⟨⟨hAE, hAR, _⟩, hhd⟩ := heads_ids (w3.alloc (.cells #[.int .i64 x, .int .i64 y] 3)) hb st.ids.length ic ia st HNI.out HI2.out.2.1 c2 hids (by have := HI2.out.2.2.1; omega) _ 2 2 [x, y] (lit_ints w3 x y _) (by omega) (fun z hz => by
      rcases List.mem_cons.1 hz with e | e
      · subst e; exact HA.out.2.1
      · have := List.mem_singleton.1 e; subst this; exact HA.out.2.2) [A, B] hHS 2 rfl
    have hAr := hAR A (by simp)
    have hBr := hAR B (by simp)
    have HAB : Hid ((0 ≤ A ∧ A ≤ 18446744073709551615) ∧ (0 ≤ B ∧ B ≤ 18446744073709551615) ∧ goL (visit (parsN ns) (errN ns) (st.os.length + 2)) [A, B] GS.none = ordG st.os [A, B] GS.none ∧ goL (visit (parsN ns) (errN ns) (st.os.length + 2)) [B] GS.none = ordG st.os [B] GS.none) := ⟨hAr, hBr, ord_same HNI.out ns HI2.out.1 [A, B] hAE, ord_same HNI.out ns HI2.out.1 [B] (fun e => hAE (by simp only [List.mem_singleton] at e; simp [e]))⟩
    have HBL : Hid (Below w3.heap.size w3 (w3.alloc (.cells #[.int .i64 x, .int .i64 y] 3))) := hBL
    have HFu : Hid (ns.length < st.os.length + 2) := by have h1 := HNI.out.len; have h2 : ns.length = st.nodes.length := (by rw [← HI2.out.1, List.length_map]); show _ < _; omega
    clear hBL hids c0 c1 c2 hA hB hHS hAE hAR hAr hBr
    go_wp2_with fail
    refine hhd.mono ?_
    clear hhd
    rintro e w0 ⟨ha4, hc4, rfl, hI4, hn4, _, hB4⟩
    have H40 : Hid (Below w2.heap.size w2 w0) := H3L.out.trans (hB4.mono H3L.out.size)
    obtain ⟨bb, bo, hae, hcc⟩ := hI4.2 (by omega)
    have HI40 : Hid (Ids w0 ha4 2 [A, B]) := hI4
    subst hae
    have qA := hcc 0 A rfl
    have qB := hcc 1 B rfl
    rw [Nat.add_zero] at qA
    clear hB4 hI4 hcc
    go_wp2_with fail
    go_quiet (fail)
    generalize hW4 : w0.drewN nq = w4
    have hB4 : Below w0.heap.size w0 w4 := by rw [← hW4]; exact below_drewN (Below.refl _ _) nq
    have H4 : Hid (Below w2.heap.size w2 w4) := H40.out.trans (hB4.mono H40.out.size)
    have HI4 : Hid (Ids w4 (some ⟨bb, bo, none⟩) 2 [A, B]) := HI40.out.kept hB4
    clear qA qB hW4
    obtain ⟨⟨c0, c1, c2⟩, _, _, hNE⟩ := HEv.out w4 H4.out
    have hdo := order11_any w4 na ns.length nc ns hNE rfl (st.os.length + 2) HFu.out _ 2 hc4 [A, B] HI4.out (by omega)
    rw [HAB.out.2.2.1] at hdo
    clear hB4 hNE c0 c2
    cases hR : ordG st.os [A, B] GS.none with
    | bad er =>
      cases hRb : ordG st.os [B] GS.none with
      | bad er2 =>
        rw [hR] at hdo
        go_wp2_with fail
        refine hdo.mono ?_
        clear hdo
        rintro e w5 ⟨⟨hB5, _⟩, he5, hne5⟩
        subst he5
        have H5 : Hid (Below w2.heap.size w2 w5) := H4.out.trans (hB5.mono H4.out.size)
        obtain ⟨⟨c0, _, _⟩, _, hIS, _⟩ := HEv.out w5 H5.out
        have hpo := ancestor_any w5 s d st.os _ false F hIS (by have := HI2.out.2.2.2.1; omega) A B HAB.out.1 HAB.out.2.1
        rw [hR] at hpo
        clear hIS hB5 c1
        go_wp2_with fail
        refine hpo.mono ?_
        clear hpo c0
        rintro e w6 ⟨hB6, he6, _⟩
        subst he6
        have H6 : Hid (Below w2.heap.size w2 w6) := H5.out.trans (hB6.mono H5.out.size)
        obtain ⟨⟨c0, _, _⟩, _, hIS, _⟩ := HEv.out w6 H6.out
        have hpo := lines_any w6 s d st.os _ false F hIS (by have := HI2.out.2.2.2.1; omega) A B HAB.out.1 HAB.out.2.1
        rw [hR] at hpo
        clear hIS hB6
        go_wp2_with fail
        refine hpo.mono ?_
        clear hpo c0
        rintro e w7 ⟨hB7, he7, _⟩
        subst he7
        have H7 : Hid (Below w2.heap.size w2 w7) := H6.out.trans (hB7.mono H6.out.size)
        clear hB7
        have hBK : Below w7.heap.size w7 (w7.alloc (.cells #[.int .u64 B] 31)) := (Below.refl _ w7).alloc (Nat.le_refl _) _
        have H7L : Hid (Below w2.heap.size w2 (w7.alloc (.cells #[.int .u64 B] 31))) := H7.out.trans (hBK.mono H7.out.size)
        obtain ⟨⟨_, c1, _⟩, _, _, hNE⟩ := HEv.out _ H7L.out
        have c1b := (HEv.out _ H7.out).1.2.1
        have hdo := order11_any (w7.alloc (.cells #[.int .u64 B] 31)) na ns.length nc ns hNE rfl (st.os.length + 2) HFu.out _ 1 1 [B] (lit_id w7 B _) (by omega)
        rw [HAB.out.2.2.2, hRb] at hdo
        clear hNE hBK
        have hne5b : (er == 0) = false := beq_eq_false_iff_ne.2 hne5
        go_wp2_with fail
        refine hdo.mono ?_
        clear hdo
        rintro e w8 ⟨⟨hB8, _⟩, he8, hne8⟩
        subst he8
        have H8 : Hid (Below w2.heap.size w2 w8) := H7L.out.trans (hB8.mono H7L.out.size)
        clear hB8 c1 c1b
        obtain ⟨⟨c0, c1, _⟩, _, hIS, _⟩ := HEv.out w8 H8.out
        have hpo := depth_any w8 s d st.os _ false F hIS (by have := HI2.out.2.2.2.1; omega) B HAB.out.2.1
        rw [hRb] at hpo
        clear hIS
        go_wp2_with fail
        refine hpo.mono ?_
        clear hpo
        rintro e w9 ⟨hB9, he9, hne9⟩
        subst he9
        have H9w : Hid (Below w.heap.size w w9) := H2.out.trans ((H8.out.trans (hB9.mono H8.out.size)).mono H2.out.size)
        have z1 : (er2 == 0) = false := beq_eq_false_iff_ne.2 hne9
        clear hB9 c0 c1
        go_wp2
        go_ret
        exact ⟨rfl, H9w.out⟩
      | ok gb =>
        rw [hR] at hdo
        go_wp2_with fail
        refine hdo.mono ?_
        clear hdo
        rintro e w5 ⟨⟨hB5, _⟩, he5, hne5⟩
        subst he5
        have H5 : Hid (Below w2.heap.size w2 w5) := H4.out.trans (hB5.mono H4.out.size)
        obtain ⟨⟨c0, _, _⟩, _, hIS, _⟩ := HEv.out w5 H5.out
        have hpo := ancestor_any w5 s d st.os _ false F hIS (by have := HI2.out.2.2.2.1; omega) A B HAB.out.1 HAB.out.2.1
        rw [hR] at hpo
        clear hIS hB5 c1
        go_wp2_with fail
        refine hpo.mono ?_
        clear hpo c0
        rintro e w6 ⟨hB6, he6, _⟩
        subst he6
        have H6 : Hid (Below w2.heap.size w2 w6) := H5.out.trans (hB6.mono H5.out.size)
        obtain ⟨⟨c0, _, _⟩, _, hIS, _⟩ := HEv.out w6 H6.out
        have hpo := lines_any w6 s d st.os _ false F hIS (by have := HI2.out.2.2.2.1; omega) A B HAB.out.1 HAB.out.2.1
        rw [hR] at hpo
        clear hIS hB6
        go_wp2_with fail
        refine hpo.mono ?_
        clear hpo c0
        rintro e w7 ⟨hB7, he7, _⟩
        subst he7
        have H7 : Hid (Below w2.heap.size w2 w7) := H6.out.trans (hB7.mono H6.out.size)
        clear hB7
        have hBK : Below w7.heap.size w7 (w7.alloc (.cells #[.int .u64 B] 31)) := (Below.refl _ w7).alloc (Nat.le_refl _) _
        have H7L : Hid (Below w2.heap.size w2 (w7.alloc (.cells #[.int .u64 B] 31))) := H7.out.trans (hBK.mono H7.out.size)
        obtain ⟨⟨_, c1, _⟩, _, _, hNE⟩ := HEv.out _ H7L.out
        have c1b := (HEv.out _ H7.out).1.2.1
        have hdo := order11_any (w7.alloc (.cells #[.int .u64 B] 31)) na ns.length nc ns hNE rfl (st.os.length + 2) HFu.out _ 1 1 [B] (lit_id w7 B _) (by omega)
        rw [HAB.out.2.2.2, hRb] at hdo
        clear hNE hBK
        have hne5b : (er == 0) = false := beq_eq_false_iff_ne.2 hne5
        go_wp2_with fail
        refine hdo.mono ?_
        clear hdo
        rintro e w8 ⟨⟨hB8, hgl8⟩, ad8, cp8, he8, hr8⟩
        subst he8
        obtain ⟨_, _, ee, hI8⟩ := own_ids hr8
        cases ee
        have hgl : gb.ord.length ≤ 1000 := hgl8 gb rfl
        have HI8 : Hid (Ids w8 ad8 gb.ord.length gb.ord) := hI8
        clear hI8 hr8 hgl8
        generalize hGB : gb.ord.length = GB at *
        have HGB : Hid (gb.ord.length = GB) := hGB
        clear hGB
        have H8 : Hid (Below w2.heap.size w2 w8) := H7L.out.trans (hB8.mono H7L.out.size)
        clear hB8 c1 c1b
        obtain ⟨⟨c0, c1, _⟩, _, hIS, _⟩ := HEv.out w8 H8.out
        have hpo := depth_any w8 s d st.os _ false F hIS (by have := HI2.out.2.2.2.1; omega) B HAB.out.2.1
        rw [hRb] at hpo
        clear hIS
        go_wp2_with fail
        refine hpo.mono ?_
        clear hpo
        rintro e w9 ⟨hB9, he9⟩
        have he9' : e = .returned (.tuple #[.int .i64 (depthG st.os gb.ord B), .int .i64 0]) := he9
        subst he9'
        clear he9
        have H9 : Hid (Below w2.heap.size w2 w9) := H8.out.trans (hB9.mono H8.out.size)
        obtain ⟨_, _, _, hNE⟩ := HEv.out w9 H9.out
        obtain ⟨hd1, hd2⟩ := tells_depth HNI.out ns HI2.out.1 hRb HI2.out.2.2.2.1
        have hdd := depth11_any w9 na ns.length nc ns hNE ad8 GB cp8 gb.ord (HI8.out.kept hB9) hgl _ hd1 hd2 B (ord_heads hRb B (by simp))
        have c1' := (HEv.out w9 H9.out).1.2.1
        have HI9 : Hid (Ids w9 ad8 GB gb.ord) := HI8.out.kept hB9
        have hdE : depL (pairsO st.os gb.ord) (fun _ => 0) B = depthG st.os gb.ord B := rfl
        rw [hdE] at hdd
        clear hNE hd1 hd2 hB9 c0 c1 hdE
        generalize depthG st.os gb.ord B = dep at *
        clear hR hRb
        go_wp2_with fail
        refine hdd.mono ?_
        clear hdd
        rintro e w10 ⟨rfl, hB10⟩
        have H10 : Hid (Below w2.heap.size w2 w10) := H9.out.trans (hB10.mono H9.out.size)
        have H10w : Hid (Below w.heap.size w w10) := H2.out.trans (H10.out.mono H2.out.size)
        clear hB10 c1'
        go_wp2
        go_ret
        exact ⟨rfl, H10w.out⟩
    | ok g =>
      obtain ⟨gb, hRb⟩ := ord_two hR
      rw [hR] at hdo
      go_wp2_with fail
      refine hdo.mono ?_
      clear hdo
      rintro e w5 ⟨⟨hB5, _⟩, ad5, cp5, he5, _⟩
      subst he5
      have H5 : Hid (Below w2.heap.size w2 w5) := H4.out.trans (hB5.mono H4.out.size)
      obtain ⟨⟨c0, _, _⟩, _, hIS, _⟩ := HEv.out w5 H5.out
      have hpo := ancestor_any w5 s d st.os _ false F hIS (by have := HI2.out.2.2.2.1; omega) A B HAB.out.1 HAB.out.2.1
      rw [hR] at hpo
      clear hIS hB5 c1
      go_wp2_with fail
      refine hpo.mono ?_
      clear hpo c0
      rintro e w6 ⟨hB6, he6⟩
      have he6' : e = .returned (.tuple #[.bool (decide (0 < linesG st.os g.ord A B)), .int .i64 0]) := he6
      subst he6'
      clear he6
      have H6 : Hid (Below w2.heap.size w2 w6) := H5.out.trans (hB6.mono H5.out.size)
      obtain ⟨⟨c0, _, _⟩, _, hIS, _⟩ := HEv.out w6 H6.out
      have hpo := lines_any w6 s d st.os _ false F hIS (by have := HI2.out.2.2.2.1; omega) A B HAB.out.1 HAB.out.2.1
      rw [hR] at hpo
      clear hIS hB6
      generalize hYS : decide (0 < linesG st.os g.ord A B) = yes at *
      have HYS : Hid (decide (0 < linesG st.os g.ord A B) = yes) := hYS
      clear hYS
      go_wp2_with fail
      refine hpo.mono ?_
      clear hpo c0
      rintro e w7 ⟨hB7, he7⟩
      have he7' : e = .returned (.tuple #[.int .i64 (linesG st.os g.ord A B), .int .i64 0]) := he7
      subst he7'
      clear he7
      generalize hLN : linesG st.os g.ord A B = LN at *
      have HLN : Hid (linesG st.os g.ord A B = LN) := hLN
      clear hLN
      have H7 : Hid (Below w2.heap.size w2 w7) := H6.out.trans (hB7.mono H6.out.size)
      clear hB7
      have hBK : Below w7.heap.size w7 (w7.alloc (.cells #[.int .u64 B] 31)) := (Below.refl _ w7).alloc (Nat.le_refl _) _
      have H7L : Hid (Below w2.heap.size w2 (w7.alloc (.cells #[.int .u64 B] 31))) := H7.out.trans (hBK.mono H7.out.size)
      obtain ⟨⟨_, c1, _⟩, _, _, hNE⟩ := HEv.out _ H7L.out
      have c1b := (HEv.out _ H7.out).1.2.1
      have hdo := order11_any (w7.alloc (.cells #[.int .u64 B] 31)) na ns.length nc ns hNE rfl (st.os.length + 2) HFu.out _ 1 1 [B] (lit_id w7 B _) (by omega)
      rw [HAB.out.2.2.2, hRb] at hdo
      clear hNE hBK
      go_wp2_with fail
      refine hdo.mono ?_
      clear hdo
      rintro e w8 ⟨⟨hB8, hgl8⟩, ad8, cp8, he8, hr8⟩
      subst he8
      obtain ⟨_, _, ee, hI8⟩ := own_ids hr8
      cases ee
      have hgl : gb.ord.length ≤ 1000 := hgl8 gb rfl
      have HI8 : Hid (Ids w8 ad8 gb.ord.length gb.ord) := hI8
      clear hI8 hr8 hgl8
      generalize hGB : gb.ord.length = GB at *
      have HGB : Hid (gb.ord.length = GB) := hGB
      clear hGB
      have H8 : Hid (Below w2.heap.size w2 w8) := H7L.out.trans (hB8.mono H7L.out.size)
      clear hB8 c1 c1b
      obtain ⟨⟨c0, c1, _⟩, _, hIS, _⟩ := HEv.out w8 H8.out
      have hpo := depth_any w8 s d st.os _ false F hIS (by have := HI2.out.2.2.2.1; omega) B HAB.out.2.1
      rw [hRb] at hpo
      clear hIS
      go_wp2_with fail
      refine hpo.mono ?_
      clear hpo
      rintro e w9 ⟨hB9, he9⟩
      have he9' : e = .returned (.tuple #[.int .i64 (depthG st.os gb.ord B), .int .i64 0]) := he9
      subst he9'
      clear he9
      have H9 : Hid (Below w2.heap.size w2 w9) := H8.out.trans (hB9.mono H8.out.size)
      obtain ⟨_, _, _, hNE⟩ := HEv.out w9 H9.out
      obtain ⟨hd1, hd2⟩ := tells_depth HNI.out ns HI2.out.1 hRb HI2.out.2.2.2.1
      have hdd := depth11_any w9 na ns.length nc ns hNE ad8 GB cp8 gb.ord (HI8.out.kept hB9) hgl _ hd1 hd2 B (ord_heads hRb B (by simp))
      have c1' := (HEv.out w9 H9.out).1.2.1
      have HI9 : Hid (Ids w9 ad8 GB gb.ord) := HI8.out.kept hB9
      have hdE : depL (pairsO st.os gb.ord) (fun _ => 0) B = depthG st.os gb.ord B := rfl
      rw [hdE] at hdd
      clear hNE hd1 hd2 hB9 c0 c1 hdE
      generalize depthG st.os gb.ord B = dep at *
      obtain ⟨tl1, tl2, tl3, tl4, tl5, tl6, tl7⟩ := tells_lines HNI.out HN7.out ns HI2.out.1 h24 hR hRb
      rw [HGB.out] at tl3 tl4 tl5
      have HT : Hid (InW (waysL (pairsO st.os g.ord) (setG (fun _ => 0) A 1)) ∧
          (∀ (i : Nat) x, gb.ord[i]? = some x → ∃ ps, parsN ns x = some ps ∧ waysL (pairsO st.os g.ord) (setG (fun _ => 0) A 1) x = (if x = A then 1 else sumW (waysL (pairsO st.os g.ord) (setG (fun _ => 0) A 1)) ps 0) ∧ ∀ p ∈ ps, ∃ j, j < i ∧ gb.ord[j]? = some p) ∧
          (∀ (i : Nat) x, gb.ord[i]? = some x → i + 1 < GB → waysL (pairsO st.os g.ord) (setG (fun _ => 0) A 1) x < 4611686018427387904) ∧
          0 < GB ∧ gb.ord[GB - 1]? = some B ∧ gb.ord.Nodup ∧ gb.ord.contains A = yes) := ⟨tl1, tl2, tl3, tl4, tl5, tl6, by rw [← HYS.out]; rw [HLN.out] at tl7; exact tl7.symm⟩
      clear tl1 tl2 tl3 tl4 tl5 tl6 tl7
      clear hR hRb
      go_wp2_with fail
      refine hdd.mono ?_
      clear hdd
      rintro e w10 ⟨rfl, hB10⟩
      have H10 : Hid (Below w2.heap.size w2 w10) := H9.out.trans (hB10.mono H9.out.size)
      have HI10 : Hid (Ids w10 ad8 GB gb.ord) := HI9.out.kept hB10
      have c1'' := (HEv.out w10 H10.out).1.2.1
      clear hB10 c1'
      have hhs := has11_any w10 ad8 GB cp8 gb.ord HI10.out (by omega) A
      rw [HT.out.2.2.2.2.2.2] at hhs
      obtain ⟨_, _, _, hNE⟩ := HEv.out w10 H10.out
      have hln := lines11_any w10 na ns.length nc ns hNE ad8 GB cp8 gb.ord HI10.out hgl HT.out.2.2.2.2.2.1 A _ HT.out.1 HT.out.2.1 HT.out.2.2.1 B HT.out.2.2.2.1 HT.out.2.2.2.2.1
      have hlE : waysL (pairsO st.os g.ord) (setG (fun _ => 0) A 1) B = LN := HLN.out
      rw [hlE] at hln
      have H10w : Hid (Below w.heap.size w w10) := H2.out.trans (H10.out.mono H2.out.size)
      clear hNE hlE
      go_wp2_with fail
      refine hhs.mono ?_
      clear hhs
      rintro e w11 ⟨rfl, h1⟩
      subst h1
      go_wp2_with fail
      refine hln.mono ?_
      clear hln
      rintro e w12 ⟨rfl, hB12⟩
      have H12w : Hid (Below w.heap.size w w12) := H10w.out.trans (hB12.mono H10w.out.size)
      clear hB12
      go_wp2
      go_ret
      exact ⟨rfl, H12w.out⟩
end Go.Proofs.YtojpbemfbjkjjaaGreat
