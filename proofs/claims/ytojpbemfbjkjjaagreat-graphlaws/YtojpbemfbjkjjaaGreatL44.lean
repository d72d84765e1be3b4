import Derived.Test.YtojpbemfbjkjjaaGreatL42
import Derived.Test.YtojpbemfbjkjjaaGreatL43
import Derived.Test.YtojpbemfbjkjjaaGreatL31
import Derived.Test.YtojpbemfbjkjjaaGreatL35
import Derived.Test.YtojpbemfbjkjjaaGreatL40
/- Plain facts for GraphTells: how many parents there are, how great ways get, what the last of an order is. -/
namespace Go.Proofs.YtojpbemfbjkjjaaGreat
open Go.RowKit Go.Maps

theorem parsG_seven (ids : List Int) (b : BornD) : (parsG ids b).length ≤ 7 ∨ (54321 : Int) ∈ parsG ids b := by
  unfold parsG
  cases b.lost with
  | true => right; simp
  | false =>
    left
    simp only [Bool.false_eq_true, if_false, List.append_nil]
    unfold backs
    split
    · simp
    · rw [List.length_map, List.length_take]; omega
/-- a commit has at most seven parents, or one that is not there -/
structure N7 (st : BS) : Prop where
  par : ∀ i ps, lookT st.nodes i = some (some ps) → ps.length ≤ 7 ∨ (54321 : Int) ∈ ps
  los : lookT st.nodes 54321 = none
theorem N7.step {st st' : BS} {b : BornD} (h : N7 st) (hs : stepB emptyI st b = some st') : N7 st' := by
  unfold stepB at hs
  generalize obG emptyI st.ids b = o at *
  cases hp : putG st.os o with
  | none => rw [hp] at hs; cases hs
  | some os' =>
    rw [hp] at hs
    simp only at hs
    split at hs
    · cases hs
    · rename_i hne
      simp only [Option.some.injEq] at hs
      subst hs
      cases hh : hasN st.nodes (oid o) with
      | true => exact ⟨by simpa using h.par, by simpa using h.los⟩
      | false =>
        have hlk : lookT st.nodes (oid o) = none := by
          rw [hasN_look] at hh
          cases hl : lookT st.nodes (oid o) with
          | none => rfl
          | some y => rw [hl] at hh; cases hh
        simp only [Bool.false_eq_true, if_false]
        refine ⟨fun i ps hi => ?_, ?_⟩
        · have hi' : lookT (st.nodes ++ [(oid o, parsG st.ids b, b.blob)]) i = some (some ps) := hi
          rw [lookT_snoc _ _ _ hlk] at hi'
          by_cases h1 : i = oid o
          · rw [if_pos h1] at hi'
            simp only [Option.some.injEq] at hi'
            split at hi'
            · cases hi'
            · simp only [Option.some.injEq] at hi'
              subst hi'
              exact parsG_seven _ _
          · rw [if_neg h1] at hi'
            exact h.par i ps hi'
        · show lookT (st.nodes ++ [(oid o, parsG st.ids b, b.blob)]) 54321 = none
          rw [lookT_snoc _ _ _ hlk, if_neg (fun e => hne (.inr e.symm))]
          exact h.los
theorem N7.go : ∀ (l : List BornD) (st st' : BS), N7 st → bornL emptyI l st = some st' → N7 st'
  | [], st, st', h, e => by simp only [bornL, Option.some.injEq] at e; subst e; exact h
  | b :: r, st, st', h, e => by
    simp only [bornL] at e
    cases hs : stepB emptyI st b with
    | none => rw [hs] at e; cases e
    | some s1 => rw [hs] at e; exact N7.go r s1 st' (h.step hs) e
theorem bornG_n7 {l : List BornD} {st : BS} (h : bornG l = some st) : N7 st := N7.go _ _ _ ⟨by simp [lookT], rfl⟩ h
theorem parsN_told {ns : List Nd} {nodes : List (Int × List Int × Bool)} (hn : ns.map Nd.told = nodes) {i : Int} {ps : List Int} (h : parsN ns i = some ps) : lookT nodes i = some (some ps) := by
  rw [parsN_look, hn] at h
  cases hl : lookT nodes i with
  | none => rw [hl] at h; cases h
  | some y => rw [hl] at h; have : y = some ps := h; rw [this]
theorem ord_seven {st : BS} (h : NI st) (h7 : N7 st) (ns : List Nd) (hn : ns.map Nd.told = st.nodes) {l : List Int} {gs : GS} (ho : ordG st.os l GS.none = .ok gs) : ∀ x ∈ gs.ord, (psO st.os x).length ≤ 7 := by
  intro x hx
  obtain ⟨ps, h1, h2⟩ := node_par h ns hn ho x hx
  have e : psO st.os x = ps := by unfold psO; rw [h2]; rfl
  rw [e]
  rcases h7.par x ps (parsN_told hn h1) with h3 | h3
  · exact h3
  · exfalso
    obtain ⟨i, hi⟩ := List.getElem?_of_mem hx
    obtain ⟨j, _, hj⟩ := (ord_inv ho).topo.ahead i x hi 54321 (by rw [e]; exact h3)
    obtain ⟨qs, h4, _⟩ := node_par h ns hn ho 54321 (List.mem_of_getElem? hj)
    have := parsN_told hn h4
    rw [h7.los] at this
    cases this
theorem sumW_le {f : Int → Int} {B : Int} : ∀ (l : List Int) (s : Int), (∀ p ∈ l, f p ≤ B) → sumW f l s ≤ s + (l.length : Int) * B
  | [], s, _ => by simp [sumW]
  | p :: r, s, h => by
    simp only [sumW]
    have h1 := sumW_le (f := f) r (s + (if f p ≤ 4611686018427387904 - s then f p else 4611686018427387904 - s)) (fun q hq => h q (by simp [hq]))
    have h2 := h p (by simp)
    have h3 : s + (if f p ≤ 4611686018427387904 - s then f p else 4611686018427387904 - s) ≤ s + B := by split <;> omega
    rw [List.length_cons, Int.natCast_add, Int.add_mul]
    simp only [Int.natCast_one, Int.one_mul]
    omega
theorem ways_bound {os : List Ob} {l : List Int} {a : Int} {V : Int → Int} (hT : Topo (parsO os) l) (hV : ∀ x ∈ l, V x = if x = a then 1 else sumW V (psO os x) 0) (h7 : ∀ x ∈ l, (psO os x).length ≤ 7) : ∀ (n i : Nat) (x : Int), i < n → l[i]? = some x → V x ≤ ((7 ^ i : Nat) : Int) := by
  intro n
  induction n with
  | zero => intro i x h; omega
  | succ n ih =>
    intro i x hi hx
    have hm := List.mem_of_getElem? hx
    rw [hV x hm]
    have h1 : 1 ≤ 7 ^ i := Nat.one_le_pow _ _ (by omega)
    split
    · omega
    · cases i with
      | zero =>
        have : psO os x = [] := by
          apply List.eq_nil_iff_forall_not_mem.2
          intro p hp
          obtain ⟨j, hj, _⟩ := hT.ahead 0 x hx p hp
          omega
        rw [this]
        simp [sumW]
      | succ i =>
        have h2 := sumW_le (f := V) (B := ((7 ^ i : Nat) : Int)) (psO os x) 0 (fun p hp => by
          obtain ⟨j, hj, hpj⟩ := hT.ahead (i + 1) x hx p hp
          have h3 := ih j p (by omega) hpj
          have h4 : 7 ^ j ≤ 7 ^ i := Nat.pow_le_pow_right (by omega) (by omega)
          omega)
        have h5 := h7 x hm
        have h6 : (psO os x).length * 7 ^ i ≤ 7 * 7 ^ i := Nat.mul_le_mul_right _ h5
        have h8 : (((psO os x).length * 7 ^ i : Nat) : Int) = ((psO os x).length : Int) * ((7 ^ i : Nat) : Int) := Int.natCast_mul _ _
        rw [← h8] at h2
        have h9 : 7 ^ (i + 1) = 7 * 7 ^ i := by rw [Nat.pow_succ, Nat.mul_comm]
        rw [h9]
        omega
theorem maxD_in {f : Int → Int} {k : Int} (hf : InD f k) : ∀ (l : List Int) (s : Int), 0 ≤ s ∧ s ≤ k → 0 ≤ maxD f l s ∧ maxD f l s ≤ k
  | [], s, h => h
  | p :: r, s, h => by
    simp only [maxD]
    have := hf p
    exact maxD_in hf r _ (by split <;> omega)
theorem InD.dep : ∀ (l : List (Int × List Int)) (f : Int → Int) (k : Int), 0 ≤ k → InD f k → InD (depL l f) (k + l.length)
  | [], f, k, _, h => by simpa [depL] using h
  | m :: r, f, k, hk, h => by
    simp only [depL]
    have := InD.dep r (setG f m.1 (maxD f m.2 0 + 1)) (k + 1) (by omega) (h.set m.1 _ (maxD_in h m.2 0 (by omega)))
    rw [List.length_cons]
    have e : k + ((r.length + 1 : Nat) : Int) = k + 1 + (r.length : Int) := by omega
    rw [e]
    exact this
theorem ord_last {os : List Ob} {b : Int} {gs : GS} (h : ordG os [b] GS.none = .ok gs) : ∃ r, gs.ord = r ++ [b] := by
  unfold ordG at h
  have h0 : goL (visit (parsO os) (errO os) ((os.length + 1) + 1)) [b] GS.none = .ok gs := h
  clear h
  have h := h0
  clear h0
  generalize os.length + 1 = F at h
  simp only [goL] at h
  have h1 : GS.none.been b ≠ 1 := by simp [GS.none]
  have h2 : GS.none.been b ≠ 2 := by simp [GS.none]
  simp only [visit, if_neg h1, if_neg h2] at h
  cases hP : parsO os b with
  | none => rw [hP] at h; cases h
  | some ps =>
    rw [hP] at h
    simp only at h
    cases h3 : goL (visit (parsO os) (errO os) F) ps (GS.none.opn b) with
    | bad e => rw [h3] at h; cases h
    | ok s1 =>
      rw [h3] at h
      simp only [GR.ok_then, GR.ok.injEq] at h
      subst h
      exact ⟨s1.ord, rfl⟩
/-- what the document's Depth asks -/
theorem tells_depth {st : BS} (h : NI st) (ns : List Nd) (hn : ns.map Nd.told = st.nodes) {l : List Int} {gs : GS} (ho : ordG st.os l GS.none = .ok gs) (hos : st.os.length ≤ 25) :
    (∀ (i : Nat) x, gs.ord[i]? = some x → ∃ ps, parsN ns x = some ps ∧ depL (pairsO st.os gs.ord) (fun _ => 0) x = maxD (depL (pairsO st.os gs.ord) (fun _ => 0)) ps 0 + 1 ∧ ∀ p ∈ ps, ∃ j, j < i ∧ gs.ord[j]? = some p) ∧ ∀ x, 0 ≤ depL (pairsO st.os gs.ord) (fun _ => 0) x ∧ depL (pairsO st.os gs.ord) (fun _ => 0) x ≤ 100000 := by
  have hI := ord_inv ho
  have hD := (dep_fix hI.nd hI.topo.ahead).1
  refine ⟨fun i x hx => ?_, fun x => ?_⟩
  · obtain ⟨ps, h1, h2⟩ := node_par h ns hn ho x (List.mem_of_getElem? hx)
    have e : psO st.os x = ps := by unfold psO; rw [h2]; rfl
    have h3 := hD x (List.mem_of_getElem? hx)
    have h4 := hI.topo.ahead i x hx
    rw [e] at h3 h4
    exact ⟨ps, h1, h3, h4⟩
  · have h1 := InD.dep (pairsO st.os gs.ord) (fun _ => 0) 0 (by omega) (fun _ => ⟨Int.le_refl 0, Int.le_refl 0⟩) x
    have h2 := ord_len ho
    have h3 : (pairsO st.os gs.ord).length = gs.ord.length := by unfold pairsO; rw [List.length_map]
    rw [h3] at h1
    omega
/-- what the document's Lines asks, and what an ancestor is -/
theorem tells_lines {st : BS} (h : NI st) (h7 : N7 st) (ns : List Nd) (hn : ns.map Nd.told = st.nodes) (h24 : ns.length ≤ 24) {a b : Int} {g gb : GS} (ho : ordG st.os [a, b] GS.none = .ok g) (hb : ordG st.os [b] GS.none = .ok gb) :
    InW (waysL (pairsO st.os g.ord) (setG (fun _ => 0) a 1)) ∧
    (∀ (i : Nat) x, gb.ord[i]? = some x → ∃ ps, parsN ns x = some ps ∧ waysL (pairsO st.os g.ord) (setG (fun _ => 0) a 1) x = (if x = a then 1 else sumW (waysL (pairsO st.os g.ord) (setG (fun _ => 0) a 1)) ps 0) ∧ ∀ p ∈ ps, ∃ j, j < i ∧ gb.ord[j]? = some p) ∧
    (∀ (i : Nat) x, gb.ord[i]? = some x → i + 1 < gb.ord.length → waysL (pairsO st.os g.ord) (setG (fun _ => 0) a 1) x < 4611686018427387904) ∧
    0 < gb.ord.length ∧ gb.ord[gb.ord.length - 1]? = some b ∧ gb.ord.Nodup ∧ (decide (0 < linesG st.os g.ord a b) = gb.ord.contains a) := by
  have hI := ord_inv ho
  have hJ := ord_inv hb
  have hbg : b ∈ g.ord := ord_heads ho b (by simp)
  have hsub : ∀ y ∈ gb.ord, y ∈ g.ord := fun y hy => by
    obtain ⟨z, hz, h4⟩ := ord_anc hb y hy
    simp only [List.mem_singleton] at hz
    subst hz
    exact h4.mem hI.topo hbg
  have hV := ways_doc hI.topo hI.nd a
  have hA := ways_anc hI.topo hI.nd a b hbg
  have hW : InW (waysL (pairsO st.os g.ord) (setG (fun _ => 0) a 1)) := InW.ways _ _ (fun x => by unfold setG; split <;> simp)
  have hA' : 0 < linesG st.os g.ord a b ↔ Anc (parsO st.os) a b := hA
  generalize waysL (pairsO st.os g.ord) (setG (fun _ => 0) a 1) = V at *
  obtain ⟨r, hr⟩ := ord_last hb
  have hgl : gb.ord.length ≤ 24 := by
    have h1 := nodup_le gb.ord (ns.map Nd.id) hJ.nd (fun x hx => by
      obtain ⟨ps, h1, _⟩ := node_par h ns hn hb x hx
      exact parsN_mem ns x (by rw [h1]; rfl))
    rw [List.length_map] at h1
    omega
  refine ⟨hW, fun i x hx => ?_, fun i x hx hi => ?_, by rw [hr]; simp, by rw [hr]; simp, hJ.nd, ?_⟩
  · obtain ⟨ps, h1, h2⟩ := node_par h ns hn hb x (List.mem_of_getElem? hx)
    have e : psO st.os x = ps := by unfold psO; rw [h2]; rfl
    have h3 := hV x (hsub x (List.mem_of_getElem? hx))
    have h4 := hJ.topo.ahead i x hx
    rw [e] at h3 h4
    exact ⟨ps, h1, h3, h4⟩
  · have h1 := ways_bound (a := a) (V := V) hJ.topo (fun y hy => hV y (hsub y hy)) (ord_seven h h7 ns hn hb) (i + 1) i x (by omega) hx
    have h2 : 7 ^ i ≤ 7 ^ 22 := Nat.pow_le_pow_right (by omega) (by omega)
    have h3 : (7 : Nat) ^ 22 = 3909821048582988049 := by decide
    omega
  · have e : gb.ord.contains a = decide (a ∈ gb.ord) := by simp
    rw [e]
    apply decide_eq_decide.2
    rw [hA']
    constructor
    · intro h1
      exact h1.mem hJ.topo (ord_heads hb b (by simp))
    · intro h1
      obtain ⟨z, hz, h4⟩ := ord_anc hb a h1
      simp only [List.mem_singleton] at hz
      subst hz
      exact h4
theorem ord_two {os : List Ob} {a b : Int} {g : GS} (ho : ordG os [a, b] GS.none = .ok g) : ∃ gb, ordG os [b] GS.none = .ok gb := by
  obtain ⟨gb, h, _⟩ := ord_within (m := [b]) ho (fun x hx => ord_heads ho x (by simp at hx; subst hx; simp))
  exact ⟨gb, h⟩
theorem lit_ints (W : World) (x y : Int) (fz : Nat × Nat) : Ints (W.alloc (.cells #[.int .i64 x, .int .i64 y] 3 fz)) (some ⟨W.heap.size, 0, none⟩) 2 [x, y] := by
  have hb := World.alloc_heap_new W (.cells #[.int .i64 x, .int .i64 y] 3 fz)
  generalize W.alloc (.cells #[.int .i64 x, .int .i64 y] 3 fz) = W' at hb
  refine ⟨rfl, fun _ => ⟨W.heap.size, 0, rfl, fun i z hi => ?_⟩⟩
  match i, hi with
  | 0, hi => simp at hi; subst hi; simp [World.cell?, hb]
  | 1, hi => simp at hi; subst hi; simp [World.cell?, hb]
end Go.Proofs.YtojpbemfbjkjjaaGreat

/- The walk of the laws' place: where an id stands. -/
namespace Go.Proofs.YtojpbemfbjkjjaaGreat
open Go.RowKit Go.Maps

attribute [local go_sem] Oper.semAt_some

/-- where it stands, counted from k; -1: nowhere -/
def plc : List Int → Int → Int → Int
  | [], _, _ => -1
  | x :: r, i, k => if x = i then k else plc r i (k + 1)
theorem plc_drop (l : List Int) (k : Nat) (x i : Int) (c : Int) (h : l[k]? = some x) : plc (l.drop k) i c = if x = i then c else plc (l.drop (k + 1)) i (c + 1) := by
  have hk := (List.getElem?_eq_some_iff.1 h).1
  rw [List.drop_eq_getElem_cons hk]
  have : l[k] = x := (List.getElem?_eq_some_iff.1 h).2
  rw [this]
  rfl
theorem plc_mem : ∀ (l : List Int) (i : Int) (k : Int), 0 ≤ k → (0 ≤ plc l i k ↔ i ∈ l)
  | [], i, k, _ => by simp [plc]
  | x :: r, i, k, hk => by
    simp only [plc, List.mem_cons]
    by_cases h : x = i
    · rw [if_pos h]; exact ⟨fun _ => .inl h.symm, fun _ => hk⟩
    · rw [if_neg h, plc_mem r i (k + 1) (by omega)]
      refine ⟨.inr, fun e => ?_⟩
      rcases e with e | e
      · exact absurd e.symm h
      · exact e
set_option maxRecDepth 20000 in
theorem place_any (w : World) (a : Option Addr) (n c : Nat) (l : List Int) (h : Ids w a n l) (hn : n ≤ 1000000000000) (i : Int) :
    Calls Tryz.prog 23 #[.slice a n c, .int .u64 i] w fun e w' => e = .returned (.int .i64 (plc l i 0)) ∧ w' = w := by
  have hll := h.1
  obtain ⟨E, hE⟩ : ∃ E, E = plc l i 0 := ⟨_, rfl⟩
  rw [← hE]
  go_enter Tryz.func23, Tryz.ntmps23
  go_wp2
  go_loopw [9] (fun v wr => ∃ k : Nat, k ≤ n ∧ v = .int .i64 (k : Int) ∧ Hid (E = plc (l.drop k) i (k : Int) ∧ wr = w)) (fun v _ => n - (intOf v).toNat)
  case atStart => exact ⟨0, Nat.zero_le _, rfl, hE, rfl⟩
  case round =>
    clear hE
    obtain ⟨k, hk, rfl, H⟩ := hrel
    have hwr := H.out.2
    subst hwr
    by_cases hlt : k < n
    · obtain ⟨x, hx⟩ : ∃ x, l[k]? = some x := ⟨_, List.getElem?_eq_getElem (by omega)⟩
      obtain ⟨b1, o1, rfl, hc1⟩ := h.2 (by omega)
      have q0 := hc1 k x hx
      have HD := H.out.1.trans (plc_drop l k x i (k : Int) hx)
      have i2 : (k : Int) < (n : Int) := by omega
      have i3 : ¬ n ≤ k := by omega
      clear hc1 hx H
      by_cases h0 : x = i
      · subst h0
        have e0 : E = (k : Int) := by rw [HD, if_pos rfl]
        clear HD
        subst e0
        go_wp2
        go_ret
        exact ⟨rfl, rfl⟩
      · have h0' : (x == i) = false := beq_eq_false_iff_ne.2 h0
        have HE : Hid (E = plc (l.drop (k + 1)) i ((k : Int) + 1)) := by rw [HD, if_neg h0]; exact rfl
        clear HD
        go_wp2
        go_roundw
        case rel => exact ⟨k + 1, by omega, by simp, by have := HE.out; simpa using this, by trivial⟩
        case measure => simp [intOf]; omega
    · obtain rfl : k = n := by omega
      have i2 : ¬ (k : Int) < (k : Int) := by omega
      have e0 : E = -1 := by rw [H.out.1, List.drop_of_length_le (by omega)]; rfl
      clear H
      subst e0
      go_wp2
      go_ret
      exact ⟨rfl, rfl⟩
end Go.Proofs.YtojpbemfbjkjjaaGreat

/- Plain facts for GraphLaws: places, depths and ancestors within one order. -/
namespace Go.Proofs.YtojpbemfbjkjjaaGreat
open Go.RowKit Go.Maps

theorem plc_at : ∀ (l : List Int) (i : Nat) (x k : Int), l.Nodup → l[i]? = some x → plc l x k = k + i
  | [], i, x, k, _, h => by simp at h
  | y :: r, 0, x, k, _, h => by
    simp only [List.getElem?_cons_zero, Option.some.injEq] at h
    subst h
    simp [plc]
  | y :: r, i + 1, x, k, hn, h => by
    simp only [List.getElem?_cons_succ] at h
    have hne : y ≠ x := fun e => (List.nodup_cons.1 hn).1 (e ▸ List.mem_of_getElem? h)
    simp only [plc, if_neg hne]
    rw [plc_at r i x (k + 1) (List.nodup_cons.1 hn).2 h]
    omega
theorem ord_rng {os : List Ob} {l : List Int} {g : GS} (h : ordG os l GS.none = .ok g) : ∀ u ∈ g.ord, 0 ≤ u ∧ u ≤ 18446744073709551615 := by
  intro u hu
  obtain ⟨i, hi⟩ := List.getElem?_of_mem hu
  obtain ⟨ps, hp, _⟩ := (ord_inv h).topo i u hi
  unfold parsO at hp
  cases hf : findO os u with
  | none => rw [hf] at hp; cases hp
  | some o =>
    obtain ⟨_, h2⟩ := findO_mem hf
    rw [← h2]
    exact (oid_rng o).2
/-- a commit's depth is the same in its own order and in one around it -/
theorem laws_dep {os : List Ob} {l : List Int} {g : GS} (h : ordG os l GS.none = .ok g) {x : Int} (hx : x ∈ g.ord) : ∃ gx, ordG os [x] GS.none = .ok gx ∧ depthG os gx.ord x = depL (pairsO os g.ord) (fun _ => 0) x := by
  obtain ⟨gx, h1, h2⟩ := ord_within (m := [x]) h (fun y hy => by simp only [List.mem_singleton] at hy; subst hy; exact hx)
  refine ⟨gx, h1, ?_⟩
  have hI := ord_inv h
  have hJ := ord_inv h1
  have hF := (dep_fix hI.nd hI.topo.ahead).1
  have hG := (dep_fix hJ.nd hJ.topo.ahead).1
  exact fix_one hJ.topo.ahead (fun f y => maxD f (psO os y) 0 + 1) (fun f k y hp => by rw [maxD_congr _ _ hp]) hG (fun y hy => hF y (h2 y hy)) x (ord_heads h1 x (by simp))
theorem laws_less {os : List Ob} {l : List Int} {g : GS} (h : ordG os l GS.none = .ok g) {x : Int} (hx : x ∈ g.ord) {ps : List Int} (hp : parsO os x = some ps) : 1 ≤ depL (pairsO os g.ord) (fun _ => 0) x ∧ (∀ p ∈ ps, depL (pairsO os g.ord) (fun _ => 0) p < depL (pairsO os g.ord) (fun _ => 0) x) ∧ depL (pairsO os g.ord) (fun _ => 0) x ≤ os.length := by
  have hI := ord_inv h
  have hF := (dep_fix hI.nd hI.topo.ahead).1 x hx
  have e : psO os x = ps := by unfold psO; rw [hp]; rfl
  rw [e] at hF
  obtain ⟨h1, h2⟩ := maxD_ge (f := depL (pairsO os g.ord) (fun _ => 0)) ps 0
  have h3 := InD.dep (pairsO os g.ord) (fun _ => 0) 0 (by omega) (fun _ => ⟨Int.le_refl 0, Int.le_refl 0⟩) x
  have h4 : (pairsO os g.ord).length = g.ord.length := by unfold pairsO; rw [List.length_map]
  have h5 := ord_len h
  rw [h4] at h3
  refine ⟨by omega, fun p hp => ?_, by omega⟩
  have := h2 p hp
  omega
/-- Ancestor of two commits of an order -/
theorem laws_anc {os : List Ob} {l : List Int} {g : GS} (h : ordG os l GS.none = .ok g) {A B : Int} (hA : A ∈ g.ord) (hB : B ∈ g.ord) : ∃ gx, ordG os [A, B] GS.none = .ok gx ∧ (0 < linesG os gx.ord A B ↔ Anc (parsO os) A B) := by
  obtain ⟨gx, h1, h2⟩ := ord_within (m := [A, B]) h (fun y hy => by
    rcases List.mem_cons.1 hy with e | e
    · subst e; exact hA
    · have := List.mem_singleton.1 e; subst this; exact hB)
  have hJ := ord_inv h1
  exact ⟨gx, h1, ways_anc hJ.topo hJ.nd A B (ord_heads h1 B (by simp))⟩
theorem laws_bools {os : List Ob} {l : List Int} {g : GS} (h : ordG os l GS.none = .ok g) {A B C : Int} {n1 n2 n3 n4 : Int} (hB : B ∈ g.ord) (h1 : 0 < n1 ↔ Anc (parsO os) A B) (h2 : 0 < n2 ↔ Anc (parsO os) B C) (h3 : 0 < n3 ↔ Anc (parsO os) A C) (h4 : 0 < n4 ↔ Anc (parsO os) B A) :
    (decide (0 < n1) = true → decide (0 < n2) = true → decide (0 < n3) = true) ∧ (decide (0 < n1) = true → decide (0 < n4) = true → A = B) := by
  have hI := ord_inv h
  simp only [decide_eq_true_eq, h1, h2, h3, h4]
  exact ⟨fun a b => a.trans b, fun a b => a.anti hI.topo hI.nd b hB⟩
theorem lit_ints3 (W : World) (x y z : Int) (fz : Nat × Nat) (t : TypeId) : Ints (W.alloc (.cells #[.int .i64 x, .int .i64 y, .int .i64 z] t fz)) (some ⟨W.heap.size, 0, none⟩) 3 [x, y, z] := by
  have hb := World.alloc_heap_new W (.cells #[.int .i64 x, .int .i64 y, .int .i64 z] t fz)
  generalize W.alloc (.cells #[.int .i64 x, .int .i64 y, .int .i64 z] t fz) = W' at hb
  refine ⟨rfl, fun _ => ⟨W.heap.size, 0, rfl, fun i u hi => ?_⟩⟩
  match i, hi with
  | 0, hi => simp at hi; subst hi; simp [World.cell?, hb]
  | 1, hi => simp at hi; subst hi; simp [World.cell?, hb]
  | 2, hi => simp at hi; subst hi; simp [World.cell?, hb]
end Go.Proofs.YtojpbemfbjkjjaaGreat

/- Steps of a region that draws: a call by its contract, ids appended to a row of one's own. -/
namespace Go.Proofs.YtojpbemfbjkjjaaGreat
open Go.RowKit Go.Maps

set_option maxRecDepth 20000 in
theorem step_order11 (w : World) {ops : Array Oper} {o : Oper} {a : Act} {K : Act → World → Prop} {Q : Exit → Act → World → Prop} {E : Prop} (hgd : o.guard = none) (x y : Nat) (t1 t2 : TypeId)
    (ho : o.op = .call { callee := .value (.func 10), args := #[.tmp x, .tmp y], argTypes := #[t1, t2] }) (vx vy : Value) (hx : a.tmps[x]?.getD undef = vx) (hy : a.tmps[y]?.getD undef = vy) (R : Value → World → Prop)
    (hc : Calls Tryz.prog 10 #[vx, vy] w fun e w' => ∃ v, e = .returned v ∧ R v w') (hK : ∀ v w', R v w' → K (a.put o.dst v) w') :
    if Region.wanted o (yielded ops a.tmps) = true then Oper.wp Tryz.prog o a w K Q else E := by
  have hw : Region.wanted o (yielded ops a.tmps) = true := by simp [Region.wanted, hgd]
  rw [if_pos hw]
  unfold Oper.wp execOp
  simp [ho, resolve, invoke, go_sem, hx, hy]
  refine hc.mono ?_
  rintro e w' ⟨v, rfl, hR⟩
  have := hK v w' hR
  simpa [go_sem] using this
set_option maxRecDepth 20000 in
theorem step_between (w : World) {ops : Array Oper} {o : Oper} {a : Act} {K : Act → World → Prop} {Q : Exit → Act → World → Prop} {E : Prop} (hgd : o.guard = none) (x y z : Nat) (t1 t2 t3 : TypeId)
    (ho : o.op = .call { callee := .value (.func 17), args := #[.tmp x, .tmp y, .tmp z], argTypes := #[t1, t2, t3] }) (vx vy vz : Value) (hx : a.tmps[x]?.getD undef = vx) (hy : a.tmps[y]?.getD undef = vy) (hz : a.tmps[z]?.getD undef = vz) (R : Value → World → Prop)
    (hc : Calls Tryz.prog 17 #[vx, vy, vz] w fun e w' => ∃ v, e = .returned v ∧ R v w') (hK : ∀ v w', R v w' → K (a.put o.dst v) w') :
    if Region.wanted o (yielded ops a.tmps) = true then Oper.wp Tryz.prog o a w K Q else E := by
  have hw : Region.wanted o (yielded ops a.tmps) = true := by simp [Region.wanted, hgd]
  rw [if_pos hw]
  unfold Oper.wp execOp
  simp [ho, resolve, invoke, go_sem, hx, hy, hz]
  refine hc.mono ?_
  rintro e w' ⟨v, rfl, hR⟩
  have := hK v w' hR
  simpa [go_sem] using this
set_option maxRecDepth 20000 in
theorem step_ancestor (w : World) {ops : Array Oper} {o : Oper} {a : Act} {K : Act → World → Prop} {Q : Exit → Act → World → Prop} {E : Prop} (hgd : o.guard = none) (x y z : Nat) (t1 t2 t3 : TypeId)
    (ho : o.op = .call { callee := .value (.func 11), args := #[.tmp x, .tmp y, .tmp z], argTypes := #[t1, t2, t3] }) (vx vy vz : Value) (hx : a.tmps[x]?.getD undef = vx) (hy : a.tmps[y]?.getD undef = vy) (hz : a.tmps[z]?.getD undef = vz) (R : Value → World → Prop)
    (hc : Calls Tryz.prog 11 #[vx, vy, vz] w fun e w' => ∃ v, e = .returned v ∧ R v w') (hK : ∀ v w', R v w' → K (a.put o.dst v) w') :
    if Region.wanted o (yielded ops a.tmps) = true then Oper.wp Tryz.prog o a w K Q else E := by
  have hw : Region.wanted o (yielded ops a.tmps) = true := by simp [Region.wanted, hgd]
  rw [if_pos hw]
  unfold Oper.wp execOp
  simp [ho, resolve, invoke, go_sem, hx, hy, hz]
  refine hc.mono ?_
  rintro e w' ⟨v, rfl, hR⟩
  have := hK v w' hR
  simpa [go_sem] using this
set_option maxRecDepth 20000 in
theorem step_lines (w : World) {ops : Array Oper} {o : Oper} {a : Act} {K : Act → World → Prop} {Q : Exit → Act → World → Prop} {E : Prop} (hgd : o.guard = none) (x y z : Nat) (t1 t2 t3 : TypeId)
    (ho : o.op = .call { callee := .value (.func 12), args := #[.tmp x, .tmp y, .tmp z], argTypes := #[t1, t2, t3] }) (vx vy vz : Value) (hx : a.tmps[x]?.getD undef = vx) (hy : a.tmps[y]?.getD undef = vy) (hz : a.tmps[z]?.getD undef = vz) (R : Value → World → Prop)
    (hc : Calls Tryz.prog 12 #[vx, vy, vz] w fun e w' => ∃ v, e = .returned v ∧ R v w') (hK : ∀ v w', R v w' → K (a.put o.dst v) w') :
    if Region.wanted o (yielded ops a.tmps) = true then Oper.wp Tryz.prog o a w K Q else E := by
  have hw : Region.wanted o (yielded ops a.tmps) = true := by simp [Region.wanted, hgd]
  rw [if_pos hw]
  unfold Oper.wp execOp
  simp [ho, resolve, invoke, go_sem, hx, hy, hz]
  refine hc.mono ?_
  rintro e w' ⟨v, rfl, hR⟩
  have := hK v w' hR
  simpa [go_sem] using this
theorem own_idsG {W : World} {B n : Nat} {v : Value} {l : List Int} (h : W.ownsRow B 31 1 v n (l.map (Value.int .u64))) : ∃ ad c, v = .slice ad n c ∧ Ids W ad n l := by
  have hn : l.length = n := by have := h.1; rw [List.length_map] at this; omega
  subst hn
  exact own_ids h
theorem step_appIds (w : World) {ops : Array Oper} {o : Oper} {a : Act} {K : Act → World → Prop} {Q : Exit → Act → World → Prop} {E : Prop} (hgd : o.guard = none) (s x : Operand)
    (ho : o.op = .call { callee := .builtin .append, args := #[s, x], argTypes := #[27, 27] })
    (base n m c : Nat) (v : Value) (k l : List Int) (ad : Option Addr) (hs : a.eval s = v) (hx : a.eval x = .slice ad m c)
    (hown : w.ownsRow base 31 1 v n (k.map (Value.int .u64))) (hb : Ids w ad m l) (hnil : ad = none → m = 0 ∧ c = 0) (hm : n + m ≤ 1000000) (hbase : base ≤ w.heap.size)
    (hK : ∀ ad' c' w', n + m ≤ c' → w'.ownsRow base 31 1 (.slice ad' (n + m) c') (n + m) ((k ++ l).map (Value.int .u64)) → w.grownBy w' v.ownBlock → (∀ z, (Value.slice ad' (n + m) c').ownBlock = some z → v.ownBlock = some z ∨ w.heap.size ≤ z) → K (a.put o.dst (.slice ad' (n + m) c')) w') :
    if Region.wanted o (yielded ops a.tmps) = true then Oper.wp Tryz.prog o a w K Q else E := by
  have hw : Region.wanted o (yielded ops a.tmps) = true := by simp [Region.wanted, hgd]
  rw [if_pos hw]
  obtain ⟨i0, hi, hz0, hz1, hz2⟩ := info_parts infoIdG
  cases ad with
  | none =>
    obtain ⟨rfl, rfl⟩ := hnil rfl
    have hl : l = [] := List.eq_nil_of_length_eq_zero hb.1
    subst hl
    obtain ⟨ad', c', rfl, hc', _⟩ := row_shapeN hown
    have hrun := run_append_owned_none (P := Tryz.prog) (w := w) base 27 o.type 31 i0 1 Tryz.underlying27 hi _ n _ hown
    unfold Oper.wp
    simp [execOp, ho, resolve, invoke, builtin, hs, hx, hrun, Result.andThen]
    have := hK ad' c' w (by omega) (by simpa using hown) (World.grownBy.refl _ _) (fun z hz => .inl (by rw [← hz]; rfl))
    simp only [Nat.add_zero] at this
    exact this
  | some ad =>
    obtain ⟨v', w', hr, h2, h3, _, h5⟩ := run_append_own_at (P := Tryz.prog) w base 27 o.type 31 i0 _ 1 8 Tryz.underlying27 hi hz0 hz1 hz2 rfl (by omega) v n _ hown ad m c (l.map (Value.int .u64)) (by rw [List.length_map, hb.1]; omega) (fun j u hj => by
      rw [List.getElem?_map] at hj
      cases hy : l[j]? with
      | none => rw [hy] at hj; cases hj
      | some y =>
        rw [hy] at hj
        cases hj
        have hjl : j < l.length := (List.getElem?_eq_some_iff.1 hy).1
        have hl := hb.1
        obtain ⟨b, off, hx', hc⟩ := hb.2 (by omega)
        obtain rfl := Option.some.inj hx'
        rw [Addr.add_lit]
        exact hc j y hy) (fun u hu => by obtain ⟨y, _, rfl⟩ := List.mem_map.1 hu; rfl) (by unfold maxLen; omega) (by omega) hbase
    obtain ⟨ad', c', rfl, hc', _⟩ := row_shapeN h2
    unfold Oper.wp execOp
    simp only [ho, resolve, invoke, builtin, Sem.run_bind, Sem.run_pure, Result.andThen_ok, List.map_toArray, List.map_cons, List.map_nil, hs, hx, hr]
    exact hK ad' c' w' hc' (by rw [List.map_append]; exact h2) h3 (fun z hz => h5.elim (fun e => .inl (by rw [← e]; exact hz)) (fun e => .inr (by rw [e] at hz; cases hz; exact Nat.le_refl _)))
theorem row_keptG {w w' : World} {e : TypeId} {B n z : Nat} {v : Value} {xs : List Value} (h : w.ownsRow B e z v n xs) (hk : ∀ g, v.ownBlock = some g → w'.heap[g]? = w.heap[g]?) : w'.ownsRow B e z v n xs := by
  refine ⟨h.1, ?_⟩
  rcases h.2 with h0 | ⟨g, cap, cur, h1, h2, h3, h4⟩
  · exact .inl h0
  · exact .inr ⟨g, cap, cur, h1, h2, (hk g (by rw [h1]; rfl)).trans h3, h4⟩
/-- a row of ids of the call's own -/
structure OneR (w0 w : World) (v : Value) (n : Nat) (l : List Int) : Prop where
  bel : Below w0.heap.size w0 w
  r : w.ownsRow w0.heap.size 31 1 v n (l.map (Value.int .u64))
structure TwoR (w0 w : World) (v : Value) (n : Nat) (l : List Int) (v2 : Value) (n2 : Nat) (l2 : List Int) : Prop where
  bel : Below w0.heap.size w0 w
  r : w.ownsRow w0.heap.size 31 1 v n (l.map (Value.int .u64))
  r2 : w.ownsRow w0.heap.size 31 1 v2 n2 (l2.map (Value.int .u64))
  ne : ∀ z, v.ownBlock = some z → v2.ownBlock ≠ some z
theorem OneR.start {w0 w : World} (h : Below w0.heap.size w0 w) : OneR w0 (w.alloc (.cells #[] 31)) (.slice (some ⟨w.heap.size, 0, none⟩) 0 0) 0 [] :=
  ⟨h.alloc h.size _, row_empty w w0.heap.size h.size⟩
theorem OneR.app {w0 w w' : World} {v v' : Value} {n m : Nat} {l k : List Int} (h : OneR w0 w v n l) (hr : w'.ownsRow w0.heap.size 31 1 v' m (k.map (Value.int .u64))) (hg : w.grownBy w' v.ownBlock) : OneR w0 w' v' m k :=
  ⟨h.bel.grown hg h.bel.size (fun z hz => (h.r.lt z hz).1), hr⟩
theorem OneR.two {w0 w : World} {v : Value} {n : Nat} {l : List Int} (h : OneR w0 w v n l) : TwoR w0 (w.alloc (.cells #[] 31)) v n l (.slice (some ⟨w.heap.size, 0, none⟩) 0 0) 0 [] :=
  ⟨h.bel.alloc h.bel.size _, h.r.alloc _, row_empty w w0.heap.size h.bel.size, fun z hz e => by
    have h1 := (h.r.lt z hz).2
    have h2 : w.heap.size = z := Option.some.inj e
    omega⟩
theorem TwoR.symm {w0 w : World} {v : Value} {n : Nat} {l : List Int} {v2 : Value} {n2 : Nat} {l2 : List Int} (h : TwoR w0 w v n l v2 n2 l2) : TwoR w0 w v2 n2 l2 v n l :=
  ⟨h.bel, h.r2, h.r, fun z h1 h2 => h.ne z h2 h1⟩
theorem TwoR.app {w0 w w' : World} {v v' : Value} {n m : Nat} {l k : List Int} {v2 : Value} {n2 : Nat} {l2 : List Int} (h : TwoR w0 w v n l v2 n2 l2) (hr : w'.ownsRow w0.heap.size 31 1 v' m (k.map (Value.int .u64))) (hg : w.grownBy w' v.ownBlock)
    (ha : ∀ z, v'.ownBlock = some z → v.ownBlock = some z ∨ w.heap.size ≤ z) : TwoR w0 w' v' m k v2 n2 l2 :=
  ⟨h.bel.grown hg h.bel.size (fun z hz => (h.r.lt z hz).1), hr, row_keptG h.r2 (fun g hg2 => hg.block g (h.r2.lt g hg2).2 (fun e => h.ne g e.symm hg2)), fun z hz e => by
    rcases ha z hz with h1 | h1
    · exact h.ne z h1 e
    · have := (h.r2.lt z e).2; omega⟩
section
variable {P : Program} {ops : Array Oper} {Q : Exit → Act → World → Prop} {md : Region.Mode} {S : Array Bool → World → Prop}
theorem wpAnyG_two {i j : Nat} {o o2 : Oper} {fuel : Nat} {listed : Array Bool} {a : Act} {w : World} (hr : Region.ready md ops listed = [i, j]) (ho : ops[i]? = some o) (ho2 : ops[j]? = some o2)
    (h : ∀ K' : Act → World → Prop, Shut (∀ a w, S (listed.setIfInBounds i true) w → (S (listed.setIfInBounds i true) w → wpAnyG P md ops Q S fuel (listed.setIfInBounds i true) a w) → K' a w) → if Region.wanted o (yielded ops a.tmps) = true then Oper.wp P o a w K' Q else K' (a.put o.dst undef) w)
    (h2 : ∀ K' : Act → World → Prop, Shut (∀ a w, S (listed.setIfInBounds j true) w → (S (listed.setIfInBounds j true) w → wpAnyG P md ops Q S fuel (listed.setIfInBounds j true) a w) → K' a w) → if Region.wanted o2 (yielded ops a.tmps) = true then Oper.wp P o2 a w K' Q else K' (a.put o2.dst undef) w) : wpAnyG P md ops Q S (fuel + 1) listed a w :=
  wpAnyG_ready hr (by simp) fun q hq => by
    rcases List.mem_cons.1 hq with e | e
    · subst e; exact wpOp_step ho (fun K' hK => h K' (fun a w hS hW => hK a w ⟨hS, hW hS⟩))
    · have e2 := List.mem_singleton.1 e
      subst e2
      exact wpOp_step ho2 (fun K' hK => h2 K' (fun a w hS hW => hK a w ⟨hS, hW hS⟩))
end
end Go.Proofs.YtojpbemfbjkjjaaGreat
