import Derived.Test.YtncagdfbgpdhfaaGreatQ28
import Derived.Test.YtncagdfbgpdhfaaGreatQ33
import Derived.Test.YtncagdfbgpdhfaaGreatQ36
import Derived.Test.YtncagdfbgpdhfaaGreatQ29
import Derived.Test.YtncagdfbgpdhfaaGreatQ31
/- What Between tells of two lists of heads, plain; heads as a list of ids. -/
namespace Go.Proofs.YtncagdfbgpdhfaaGreat
open Go.RowKit Go.Maps

theorem btw_bad {os : List Ob} {l l2 : List Int} {e : Int} (h : ordG os l GS.none = .bad e) : btwG os l l2 = .bad e := by
  unfold btwG; rw [h]; rfl
theorem btw_bad2 {os : List Ob} {l l2 : List Int} {gs : GS} {e : Int} (h : ordG os l GS.none = .ok gs) (h2 : ordG os l2 GS.none = .bad e) : btwG os l l2 = .bad e := by
  obtain ⟨_, ha⟩ := btw_sim os l l2 gs h
  rw [h2] at ha
  unfold btwG
  rw [h]
  cases h3 : ordG os l2 gs with
  | bad f => rw [h3] at ha; have : e = f := ha; subst this; simp [h3]
  | ok t => rw [h3] at ha; exact ha.elim
theorem btw_ok {os : List Ob} {l l2 : List Int} {gs g3 : GS} (h : ordG os l GS.none = .ok gs) (h2 : ordG os l2 GS.none = .ok g3) : ∃ g2, btwG os l l2 = .ok g2 ∧ g2.ord = g3.ord.filter (fun y => decide (y ∉ gs.ord)) := by
  obtain ⟨_, ha⟩ := btw_sim os l l2 gs h
  rw [h2] at ha
  unfold btwG
  rw [h]
  cases h3 : ordG os l2 gs with
  | bad f => rw [h3] at ha; exact ha.elim
  | ok t =>
    rw [h3] at ha
    refine ⟨⟨t.been, t.ord.drop gs.ord.length⟩, by simp [h3], ?_⟩
    have h4 : Sim gs.ord g3 t := ha
    show t.ord.drop gs.ord.length = _
    rw [h4.ord, List.drop_left]
theorem btw_nil_bad {os : List Ob} {l2 : List Int} {e : Int} (h2 : ordG os l2 GS.none = .bad e) : btwG os [] l2 = .bad e := by
  have h0 : ordG os [] GS.none = .ok GS.none := rfl
  unfold btwG
  rw [h0]
  simp only [GR.ok_then, h2, GR.bad_then]
theorem btw_nil_ok {os : List Ob} {l2 : List Int} {g3 : GS} (h2 : ordG os l2 GS.none = .ok g3) : btwG os [] l2 = .ok g3 := by
  have h0 : ordG os [] GS.none = .ok GS.none := rfl
  unfold btwG
  rw [h0]
  have e : GS.none.ord.length = 0 := rfl
  simp only [GR.ok_then, h2, e, List.drop_zero]
/-- every id of an order is a commit: there are no more of them than objects -/
theorem ord_len {os : List Ob} {l : List Int} {gs : GS} (h : ordG os l GS.none = .ok gs) : gs.ord.length ≤ os.length := by
  obtain ⟨hI, _⟩ := btw_sim os l [] gs h
  have h1 := nodup_le gs.ord (oids os) hI.nd (fun x hx => by
    obtain ⟨i, hi⟩ := List.getElem?_of_mem hx
    obtain ⟨ps, hp, _⟩ := hI.topo i x hi
    exact findO_oids (by rw [hp]; rfl))
  simpa [oids] using h1
/-- the law's heads, as a row of ids -/
theorem heads_ids (w : World) (hb k ic : Nat) (ia : Option Addr) (st : BS) (hN : NI st) (hO : BOk st) (c2 : w.cell? ⟨hb, 2, none⟩ = some (.slice ia k ic)) (hids : Ids w ia k st.ids) (hk : k ≤ 1000000) (a : Option Addr) (n c : Nat) (l : List Int) (hl : Ints w a n l) (hn : n ≤ 9223372036854775807) (hlr : ∀ x ∈ l, -9223372036854775808 ≤ x ∧ x ≤ 9223372036854775807) (HS : List Int) (hHS : headsG st.ids l = HS) (m : Nat) (hm : HS.length = m) :
    (emptyI ∉ HS ∧ (∀ x ∈ HS, 0 ≤ x ∧ x ≤ 18446744073709551615) ∧ m ≤ 8) ∧
    Calls Tryz.prog 29 #[.pointer (some ⟨hb, 0, none⟩), .slice a n c] w fun e w' => ∃ ad cp, e = .returned (.slice ad m cp) ∧ Ids w' ad m HS ∧ m ≤ cp ∧ (ad = none → m = 0 ∧ cp = 0) ∧ Below w.heap.size w w' := by
  subst hHS
  subst hm
  refine ⟨⟨heads_empty hN.ids l, headsG_rng (fun i hi => (hO.rng i hi).2) l, headsG_len st.ids l⟩, (heads_any w hb k ic ia st.ids c2 hids hk a n c l hl hn hlr).mono ?_⟩
  rintro e w' ⟨ad, cp, rfl, hrow, hB⟩
  obtain ⟨_, _, ee, hnc, hnn⟩ := row_shapeN hrow
  cases ee
  obtain ⟨_, _, ee, hI⟩ := own_ids hrow
  cases ee
  exact ⟨_, _, rfl, hI, hnc, hnn, hB⟩
end Go.Proofs.YtncagdfbgpdhfaaGreat

/- The walk of Roots. -/
namespace Go.Proofs.YtncagdfbgpdhfaaGreat
open Go.RowKit Go.Maps

attribute [local go_sem] Oper.semAt_some

/-- those without parents -/
def rootsP : List (Int × List Int) → List Int
  | [] => []
  | m :: r => if m.2 = [] then m.1 :: rootsP r else rootsP r
theorem rootsP_append : ∀ (l k : List (Int × List Int)), rootsP (l ++ k) = rootsP l ++ rootsP k
  | [], k => rfl
  | m :: r, k => by
    simp only [List.cons_append, rootsP, rootsP_append r k]
    split <;> rfl
theorem rootsP_take (l : List (Int × List Int)) (k : Nat) (m : Int × List Int) (h : l[k]? = some m) : rootsP (l.take (k + 1)) = if m.2 = [] then rootsP (l.take k) ++ [m.1] else rootsP (l.take k) := by
  have hk := (List.getElem?_eq_some_iff.1 h).1
  have hx : l[k] = m := (List.getElem?_eq_some_iff.1 h).2
  rw [List.take_succ_eq_append_getElem hk, hx, rootsP_append]
  simp only [rootsP]
  split
  · rfl
  · rw [List.append_nil]
theorem rootsP_len : ∀ l : List (Int × List Int), (rootsP l).length ≤ l.length
  | [] => Nat.le_refl _
  | m :: r => by
    have := rootsP_len r
    simp only [rootsP]
    split <;> simp <;> omega
def rootsG (os : List Ob) (l : List Int) : List Int := rootsP (pairsO os l)
/-- a list of ids made out of an order, or the error -/
def RtOut (w : World) (R : GR) (f : List Int → List Int) (e : Ending) (w' : World) : Prop := match R with
  | .bad er => e = .returned (.tuple #[.slice none 0 0, .int .i64 er]) ∧ er ≠ 0
  | .ok gs => ∃ ad cp, e = .returned (.tuple #[.slice ad (f gs.ord).length cp, .int .i64 0]) ∧ w'.ownsRow w.heap.size 31 1 (.slice ad (f gs.ord).length cp) (f gs.ord).length ((f gs.ord).map (Value.int .u64))
end Go.Proofs.YtncagdfbgpdhfaaGreat

/- Plain facts for GraphParts: heads behind heads; commits of a history without parents. -/
namespace Go.Proofs.YtncagdfbgpdhfaaGreat
open Go.RowKit Go.Maps

def errR : GR → Int
  | .bad e => e
  | .ok _ => 0
def lstR : GR → List Int
  | .bad _ => []
  | .ok g => g.ord
theorem goL_app (v : Int → GS → GR) : ∀ (l m : List Int) (s : GS), goL v (l ++ m) s = (goL v l s).then (goL v m)
  | [], m, s => rfl
  | x :: r, m, s => by
    simp only [List.cons_append, goL]
    cases v x s with
    | bad e => rfl
    | ok s1 => exact goL_app v r m s1
theorem ordG_app (os : List Ob) (l m : List Int) (s : GS) : ordG os (l ++ m) s = (ordG os l s).then (ordG os m) := goL_app _ l m s
theorem appG_bad {os : List Ob} {l m : List Int} {e : Int} (h : ordG os l GS.none = .bad e) : ordG os (l ++ m) GS.none = .bad e := by rw [ordG_app, h]; rfl
theorem appG_bad2 {os : List Ob} {l m : List Int} {gs : GS} {e : Int} (h : ordG os l GS.none = .ok gs) (h2 : ordG os m GS.none = .bad e) : ordG os (l ++ m) GS.none = .bad e := by
  obtain ⟨_, ha⟩ := btw_sim os l m gs h
  rw [h2] at ha
  rw [ordG_app, h]
  show ordG os m gs = _
  cases h3 : ordG os m gs with
  | bad f => rw [h3] at ha; have : e = f := ha; subst this; rfl
  | ok t => rw [h3] at ha; exact ha.elim
theorem appG_ok {os : List Ob} {l m : List Int} {gs g3 : GS} (h : ordG os l GS.none = .ok gs) (h2 : ordG os m GS.none = .ok g3) : ∃ g, ordG os (l ++ m) GS.none = .ok g := by
  obtain ⟨_, ha⟩ := btw_sim os l m gs h
  rw [h2] at ha
  rw [ordG_app, h]
  show ∃ g, ordG os m gs = _
  cases h3 : ordG os m gs with
  | bad f => rw [h3] at ha; exact ha.elim
  | ok t => exact ⟨t, rfl⟩
theorem parts_err (os : List Ob) (l m : List Int) : errR (btwG os l m) = errR (ordG os (l ++ m) GS.none) := by
  unfold btwG
  rw [ordG_app]
  cases ordG os l GS.none with
  | bad e => rfl
  | ok gs =>
    simp only [GR.ok_then]
    cases ordG os m gs <;> rfl
/-- an order's commits, as the document's nodes tell them -/
theorem node_par {st : BS} (h : NI st) (ns : List Nd) (hn : ns.map Nd.told = st.nodes) {l : List Int} {gs : GS} (ho : ordG st.os l GS.none = .ok gs) : ∀ i ∈ gs.ord, ∃ ps, parsN ns i = some ps ∧ parsO st.os i = some ps := by
  intro i hi
  obtain ⟨hI, _⟩ := btw_sim st.os l [] gs ho
  obtain ⟨j, hj⟩ := List.getElem?_of_mem hi
  obtain ⟨ps, hp, _⟩ := hI.topo j i hj
  refine ⟨ps, ?_, hp⟩
  have hne : i ≠ emptyI := by
    intro e
    subst e
    unfold parsO at hp
    rw [h.has] at hp
    cases hp
  rw [parsN_look, hn, h.look i hne]
  unfold parsO at hp
  cases hf : findO st.os i with
  | none => rw [hf] at hp; cases hp
  | some o => rw [hf] at hp; exact hp
def rootN (ns : List Nd) (l : List Int) : List Int := l.filter fun i => decide ((parsN ns i).getD [] = [])
theorem roots_first {os : List Ob} {ns : List Nd} : ∀ (l : List Int), (∀ i ∈ l, ∃ ps, parsN ns i = some ps ∧ parsO os i = some ps) → rootsG os l = rootN ns l
  | [], _ => rfl
  | i :: r, h => by
    obtain ⟨ps, h1, h2⟩ := h i (by simp)
    have ih := roots_first r (fun j hj => h j (by simp [hj]))
    unfold rootsG pairsO at ih ⊢
    unfold rootN at ih ⊢
    simp only [List.map_cons, rootsP, h2, Option.getD_some, List.filter_cons, h1]
    by_cases e : ps = []
    · simp [e, ih]
    · simp [e, ih]
theorem filter_take (p : Int → Bool) (l : List Int) (k : Nat) (x : Int) (h : l[k]? = some x) : (l.take (k + 1)).filter p = if p x then (l.take k).filter p ++ [x] else (l.take k).filter p := by
  have hk := (List.getElem?_eq_some_iff.1 h).1
  rw [List.take_succ_eq_append_getElem hk, List.filter_append]
  have : l[k] = x := (List.getElem?_eq_some_iff.1 h).2
  rw [this]
  cases hp : p x <;> simp [List.filter, hp]
end Go.Proofs.YtncagdfbgpdhfaaGreat

/- Plain facts for GraphTells: how many parents there are, how great ways get, what the last of an order is. -/
namespace Go.Proofs.YtncagdfbgpdhfaaGreat
open Go.RowKit Go.Maps

theorem parsG_seven (ids : List Int) (b : BornD) : (parsG ids b).length ≤ 7 ∨ (54321 : Int) ∈ parsG ids b := by
  unfold parsG
  cases b.lost with
  | true => right; simp
  | false =>
    left
    simp only [Bool.false_eq_true, if_false, List.append_nil]
    unfold backs
    split
    · simp
    · rw [List.length_map, List.length_take]; omega
/-- a commit has at most seven parents, or one that is not there -/
structure N7 (st : BS) : Prop where
  par : ∀ i ps, lookT st.nodes i = some (some ps) → ps.length ≤ 7 ∨ (54321 : Int) ∈ ps
  los : lookT st.nodes 54321 = none
theorem N7.step {st st' : BS} {b : BornD} (h : N7 st) (hs : stepB emptyI st b = some st') : N7 st' := by
  unfold stepB at hs
  generalize obG emptyI st.ids b = o at *
  cases hp : putG st.os o with
  | none => rw [hp] at hs; cases hs
  | some os' =>
    rw [hp] at hs
    simp only at hs
    split at hs
    · cases hs
    · rename_i hne
      simp only [Option.some.injEq] at hs
      subst hs
      cases hh : hasN st.nodes (oid o) with
      | true => exact ⟨by simpa using h.par, by simpa using h.los⟩
      | false =>
        have hlk : lookT st.nodes (oid o) = none := by
          rw [hasN_look] at hh
          cases hl : lookT st.nodes (oid o) with
          | none => rfl
          | some y => rw [hl] at hh; cases hh
        simp only [Bool.false_eq_true, if_false]
        refine ⟨fun i ps hi => ?_, ?_⟩
        · have hi' : lookT (st.nodes ++ [(oid o, parsG st.ids b, b.blob)]) i = some (some ps) := hi
          rw [lookT_snoc _ _ _ hlk] at hi'
          by_cases h1 : i = oid o
          · rw [if_pos h1] at hi'
            simp only [Option.some.injEq] at hi'
            split at hi'
            · cases hi'
            · simp only [Option.some.injEq] at hi'
              subst hi'
              exact parsG_seven _ _
          · rw [if_neg h1] at hi'
            exact h.par i ps hi'
        · show lookT (st.nodes ++ [(oid o, parsG st.ids b, b.blob)]) 54321 = none
          rw [lookT_snoc _ _ _ hlk, if_neg (fun e => hne (.inr e.symm))]
          exact h.los
theorem N7.go : ∀ (l : List BornD) (st st' : BS), N7 st → bornL emptyI l st = some st' → N7 st'
  | [], st, st', h, e => by simp only [bornL, Option.some.injEq] at e; subst e; exact h
  | b :: r, st, st', h, e => by
    simp only [bornL] at e
    cases hs : stepB emptyI st b with
    | none => rw [hs] at e; cases e
    | some s1 => rw [hs] at e; exact N7.go r s1 st' (h.step hs) e
theorem bornG_n7 {l : List BornD} {st : BS} (h : bornG l = some st) : N7 st := N7.go _ _ _ ⟨by simp [lookT], rfl⟩ h
theorem parsN_told {ns : List Nd} {nodes : List (Int × List Int × Bool)} (hn : ns.map Nd.told = nodes) {i : Int} {ps : List Int} (h : parsN ns i = some ps) : lookT nodes i = some (some ps) := by
  rw [parsN_look, hn] at h
  cases hl : lookT nodes i with
  | none => rw [hl] at h; cases h
  | some y => rw [hl] at h; have : y = some ps := h; rw [this]
theorem ord_seven {st : BS} (h : NI st) (h7 : N7 st) (ns : List Nd) (hn : ns.map Nd.told = st.nodes) {l : List Int} {gs : GS} (ho : ordG st.os l GS.none = .ok gs) : ∀ x ∈ gs.ord, (psO st.os x).length ≤ 7 := by
  intro x hx
  obtain ⟨ps, h1, h2⟩ := node_par h ns hn ho x hx
  have e : psO st.os x = ps := by unfold psO; rw [h2]; rfl
  rw [e]
  rcases h7.par x ps (parsN_told hn h1) with h3 | h3
  · exact h3
  · exfalso
    obtain ⟨i, hi⟩ := List.getElem?_of_mem hx
    obtain ⟨j, _, hj⟩ := (ord_inv ho).topo.ahead i x hi 54321 (by rw [e]; exact h3)
    obtain ⟨qs, h4, _⟩ := node_par h ns hn ho 54321 (List.mem_of_getElem? hj)
    have := parsN_told hn h4
    rw [h7.los] at this
    cases this
theorem sumW_le {f : Int → Int} {B : Int} : ∀ (l : List Int) (s : Int), (∀ p ∈ l, f p ≤ B) → sumW f l s ≤ s + (l.length : Int) * B
  | [], s, _ => by simp [sumW]
  | p :: r, s, h => by
    simp only [sumW]
    have h1 := sumW_le (f := f) r (s + (if f p ≤ 4611686018427387904 - s then f p else 4611686018427387904 - s)) (fun q hq => h q (by simp [hq]))
    have h2 := h p (by simp)
    have h3 : s + (if f p ≤ 4611686018427387904 - s then f p else 4611686018427387904 - s) ≤ s + B := by split <;> omega
    rw [List.length_cons, Int.natCast_add, Int.add_mul]
    simp only [Int.natCast_one, Int.one_mul]
    omega
theorem ways_bound {os : List Ob} {l : List Int} {a : Int} {V : Int → Int} (hT : Topo (parsO os) l) (hV : ∀ x ∈ l, V x = if x = a then 1 else sumW V (psO os x) 0) (h7 : ∀ x ∈ l, (psO os x).length ≤ 7) : ∀ (n i : Nat) (x : Int), i < n → l[i]? = some x → V x ≤ ((7 ^ i : Nat) : Int) := by
  intro n
  induction n with
  | zero => intro i x h; omega
  | succ n ih =>
    intro i x hi hx
    have hm := List.mem_of_getElem? hx
    rw [hV x hm]
    have h1 : 1 ≤ 7 ^ i := Nat.one_le_pow _ _ (by omega)
    split
    · omega
    · cases i with
      | zero =>
        have : psO os x = [] := by
          apply List.eq_nil_iff_forall_not_mem.2
          intro p hp
          obtain ⟨j, hj, _⟩ := hT.ahead 0 x hx p hp
          omega
        rw [this]
        simp [sumW]
      | succ i =>
        have h2 := sumW_le (f := V) (B := ((7 ^ i : Nat) : Int)) (psO os x) 0 (fun p hp => by
          obtain ⟨j, hj, hpj⟩ := hT.ahead (i + 1) x hx p hp
          have h3 := ih j p (by omega) hpj
          have h4 : 7 ^ j ≤ 7 ^ i := Nat.pow_le_pow_right (by omega) (by omega)
          omega)
        have h5 := h7 x hm
        have h6 : (psO os x).length * 7 ^ i ≤ 7 * 7 ^ i := Nat.mul_le_mul_right _ h5
        have h8 : (((psO os x).length * 7 ^ i : Nat) : Int) = ((psO os x).length : Int) * ((7 ^ i : Nat) : Int) := Int.natCast_mul _ _
        rw [← h8] at h2
        have h9 : 7 ^ (i + 1) = 7 * 7 ^ i := by rw [Nat.pow_succ, Nat.mul_comm]
        rw [h9]
        omega
theorem maxD_in {f : Int → Int} {k : Int} (hf : InD f k) : ∀ (l : List Int) (s : Int), 0 ≤ s ∧ s ≤ k → 0 ≤ maxD f l s ∧ maxD f l s ≤ k
  | [], s, h => h
  | p :: r, s, h => by
    simp only [maxD]
    have := hf p
    exact maxD_in hf r _ (by split <;> omega)
theorem InD.dep : ∀ (l : List (Int × List Int)) (f : Int → Int) (k : Int), 0 ≤ k → InD f k → InD (depL l f) (k + l.length)
  | [], f, k, _, h => by simpa [depL] using h
  | m :: r, f, k, hk, h => by
    simp only [depL]
    have := InD.dep r (setG f m.1 (maxD f m.2 0 + 1)) (k + 1) (by omega) (h.set m.1 _ (maxD_in h m.2 0 (by omega)))
    rw [List.length_cons]
    have e : k + ((r.length + 1 : Nat) : Int) = k + 1 + (r.length : Int) := by omega
    rw [e]
    exact this
theorem ord_last {os : List Ob} {b : Int} {gs : GS} (h : ordG os [b] GS.none = .ok gs) : ∃ r, gs.ord = r ++ [b] := by
  unfold ordG at h
  have h0 : goL (visit (parsO os) (errO os) ((os.length + 1) + 1)) [b] GS.none = .ok gs := h
  clear h
  have h := h0
  clear h0
  generalize os.length + 1 = F at h
  simp only [goL] at h
  have h1 : GS.none.been b ≠ 1 := by simp [GS.none]
  have h2 : GS.none.been b ≠ 2 := by simp [GS.none]
  simp only [visit, if_neg h1, if_neg h2] at h
  cases hP : parsO os b with
  | none => rw [hP] at h; cases h
  | some ps =>
    rw [hP] at h
    simp only at h
    cases h3 : goL (visit (parsO os) (errO os) F) ps (GS.none.opn b) with
    | bad e => rw [h3] at h; cases h
    | ok s1 =>
      rw [h3] at h
      simp only [GR.ok_then, GR.ok.injEq] at h
      subst h
      exact ⟨s1.ord, rfl⟩
/-- what the document's Depth asks -/
theorem tells_depth {st : BS} (h : NI st) (ns : List Nd) (hn : ns.map Nd.told = st.nodes) {l : List Int} {gs : GS} (ho : ordG st.os l GS.none = .ok gs) (hos : st.os.length ≤ 25) :
    (∀ (i : Nat) x, gs.ord[i]? = some x → ∃ ps, parsN ns x = some ps ∧ depL (pairsO st.os gs.ord) (fun _ => 0) x = maxD (depL (pairsO st.os gs.ord) (fun _ => 0)) ps 0 + 1 ∧ ∀ p ∈ ps, ∃ j, j < i ∧ gs.ord[j]? = some p) ∧ ∀ x, 0 ≤ depL (pairsO st.os gs.ord) (fun _ => 0) x ∧ depL (pairsO st.os gs.ord) (fun _ => 0) x ≤ 100000 := by
  have hI := ord_inv ho
  have hD := (dep_fix hI.nd hI.topo.ahead).1
  refine ⟨fun i x hx => ?_, fun x => ?_⟩
  · obtain ⟨ps, h1, h2⟩ := node_par h ns hn ho x (List.mem_of_getElem? hx)
    have e : psO st.os x = ps := by unfold psO; rw [h2]; rfl
    have h3 := hD x (List.mem_of_getElem? hx)
    have h4 := hI.topo.ahead i x hx
    rw [e] at h3 h4
    exact ⟨ps, h1, h3, h4⟩
  · have h1 := InD.dep (pairsO st.os gs.ord) (fun _ => 0) 0 (by omega) (fun _ => ⟨Int.le_refl 0, Int.le_refl 0⟩) x
    have h2 := ord_len ho
    have h3 : (pairsO st.os gs.ord).length = gs.ord.length := by unfold pairsO; rw [List.length_map]
    rw [h3] at h1
    omega
/-- what the document's Lines asks, and what an ancestor is -/
theorem tells_lines {st : BS} (h : NI st) (h7 : N7 st) (ns : List Nd) (hn : ns.map Nd.told = st.nodes) (h24 : ns.length ≤ 24) {a b : Int} {g gb : GS} (ho : ordG st.os [a, b] GS.none = .ok g) (hb : ordG st.os [b] GS.none = .ok gb) :
    InW (waysL (pairsO st.os g.ord) (setG (fun _ => 0) a 1)) ∧
    (∀ (i : Nat) x, gb.ord[i]? = some x → ∃ ps, parsN ns x = some ps ∧ waysL (pairsO st.os g.ord) (setG (fun _ => 0) a 1) x = (if x = a then 1 else sumW (waysL (pairsO st.os g.ord) (setG (fun _ => 0) a 1)) ps 0) ∧ ∀ p ∈ ps, ∃ j, j < i ∧ gb.ord[j]? = some p) ∧
    (∀ (i : Nat) x, gb.ord[i]? = some x → i + 1 < gb.ord.length → waysL (pairsO st.os g.ord) (setG (fun _ => 0) a 1) x < 4611686018427387904) ∧
    0 < gb.ord.length ∧ gb.ord[gb.ord.length - 1]? = some b ∧ gb.ord.Nodup ∧ (decide (0 < linesG st.os g.ord a b) = gb.ord.contains a) := by
  have hI := ord_inv ho
  have hJ := ord_inv hb
  have hbg : b ∈ g.ord := ord_heads ho b (by simp)
  have hsub : ∀ y ∈ gb.ord, y ∈ g.ord := fun y hy => by
    obtain ⟨z, hz, h4⟩ := ord_anc hb y hy
    simp only [List.mem_singleton] at hz
    subst hz
    exact h4.mem hI.topo hbg
  have hV := ways_doc hI.topo hI.nd a
  have hA := ways_anc hI.topo hI.nd a b hbg
  have hW : InW (waysL (pairsO st.os g.ord) (setG (fun _ => 0) a 1)) := InW.ways _ _ (fun x => by unfold setG; split <;> simp)
  have hA' : 0 < linesG st.os g.ord a b ↔ Anc (parsO st.os) a b := hA
  generalize waysL (pairsO st.os g.ord) (setG (fun _ => 0) a 1) = V at *
  obtain ⟨r, hr⟩ := ord_last hb
  have hgl : gb.ord.length ≤ 24 := by
    have h1 := nodup_le gb.ord (ns.map Nd.id) hJ.nd (fun x hx => by
      obtain ⟨ps, h1, _⟩ := node_par h ns hn hb x hx
      exact parsN_mem ns x (by rw [h1]; rfl))
    rw [List.length_map] at h1
    omega
  refine ⟨hW, fun i x hx => ?_, fun i x hx hi => ?_, by rw [hr]; simp, by rw [hr]; simp, hJ.nd, ?_⟩
  · obtain ⟨ps, h1, h2⟩ := node_par h ns hn hb x (List.mem_of_getElem? hx)
    have e : psO st.os x = ps := by unfold psO; rw [h2]; rfl
    have h3 := hV x (hsub x (List.mem_of_getElem? hx))
    have h4 := hJ.topo.ahead i x hx
    rw [e] at h3 h4
    exact ⟨ps, h1, h3, h4⟩
  · have h1 := ways_bound (a := a) (V := V) hJ.topo (fun y hy => hV y (hsub y hy)) (ord_seven h h7 ns hn hb) (i + 1) i x (by omega) hx
    have h2 : 7 ^ i ≤ 7 ^ 22 := Nat.pow_le_pow_right (by omega) (by omega)
    have h3 : (7 : Nat) ^ 22 = 3909821048582988049 := by decide
    omega
  · have e : gb.ord.contains a = decide (a ∈ gb.ord) := by simp
    rw [e]
    apply decide_eq_decide.2
    rw [hA']
    constructor
    · intro h1
      exact h1.mem hJ.topo (ord_heads hb b (by simp))
    · intro h1
      obtain ⟨z, hz, h4⟩ := ord_anc hb a h1
      simp only [List.mem_singleton] at hz
      subst hz
      exact h4
theorem ord_two {os : List Ob} {a b : Int} {g : GS} (ho : ordG os [a, b] GS.none = .ok g) : ∃ gb, ordG os [b] GS.none = .ok gb := by
  obtain ⟨gb, h, _⟩ := ord_within (m := [b]) ho (fun x hx => ord_heads ho x (by simp at hx; subst hx; simp))
  exact ⟨gb, h⟩
theorem lit_ints (W : World) (x y : Int) (fz : Nat × Nat) : Ints (W.alloc (.cells #[.int .i64 x, .int .i64 y] 3 fz)) (some ⟨W.heap.size, 0, none⟩) 2 [x, y] := by
  have hb := World.alloc_heap_new W (.cells #[.int .i64 x, .int .i64 y] 3 fz)
  generalize W.alloc (.cells #[.int .i64 x, .int .i64 y] 3 fz) = W' at hb
  refine ⟨rfl, fun _ => ⟨W.heap.size, 0, rfl, fun i z hi => ?_⟩⟩
  match i, hi with
  | 0, hi => simp at hi; subst hi; simp [World.cell?, hb]
  | 1, hi => simp at hi; subst hi; simp [World.cell?, hb]
end Go.Proofs.YtncagdfbgpdhfaaGreat

/- The walk of the laws' place: where an id stands. -/
namespace Go.Proofs.YtncagdfbgpdhfaaGreat
open Go.RowKit Go.Maps

attribute [local go_sem] Oper.semAt_some

/-- where it stands, counted from k; -1: nowhere -/
def plc : List Int → Int → Int → Int
  | [], _, _ => -1
  | x :: r, i, k => if x = i then k else plc r i (k + 1)
theorem plc_drop (l : List Int) (k : Nat) (x i : Int) (c : Int) (h : l[k]? = some x) : plc (l.drop k) i c = if x = i then c else plc (l.drop (k + 1)) i (c + 1) := by
  have hk := (List.getElem?_eq_some_iff.1 h).1
  rw [List.drop_eq_getElem_cons hk]
  have : l[k] = x := (List.getElem?_eq_some_iff.1 h).2
  rw [this]
  rfl
theorem plc_mem : ∀ (l : List Int) (i : Int) (k : Int), 0 ≤ k → (0 ≤ plc l i k ↔ i ∈ l)
  | [], i, k, _ => by simp [plc]
  | x :: r, i, k, hk => by
    simp only [plc, List.mem_cons]
    by_cases h : x = i
    · rw [if_pos h]; exact ⟨fun _ => .inl h.symm, fun _ => hk⟩
    · rw [if_neg h, plc_mem r i (k + 1) (by omega)]
      refine ⟨.inr, fun e => ?_⟩
      rcases e with e | e
      · exact absurd e.symm h
      · exact e
end Go.Proofs.YtncagdfbgpdhfaaGreat

/- Plain facts for GraphLaws: places, depths and ancestors within one order. -/
namespace Go.Proofs.YtncagdfbgpdhfaaGreat
open Go.RowKit Go.Maps

theorem plc_at : ∀ (l : List Int) (i : Nat) (x k : Int), l.Nodup → l[i]? = some x → plc l x k = k + i
  | [], i, x, k, _, h => by simp at h
  | y :: r, 0, x, k, _, h => by
    simp only [List.getElem?_cons_zero, Option.some.injEq] at h
    subst h
    simp [plc]
  | y :: r, i + 1, x, k, hn, h => by
    simp only [List.getElem?_cons_succ] at h
    have hne : y ≠ x := fun e => (List.nodup_cons.1 hn).1 (e ▸ List.mem_of_getElem? h)
    simp only [plc, if_neg hne]
    rw [plc_at r i x (k + 1) (List.nodup_cons.1 hn).2 h]
    omega
theorem ord_rng {os : List Ob} {l : List Int} {g : GS} (h : ordG os l GS.none = .ok g) : ∀ u ∈ g.ord, 0 ≤ u ∧ u ≤ 18446744073709551615 := by
  intro u hu
  obtain ⟨i, hi⟩ := List.getElem?_of_mem hu
  obtain ⟨ps, hp, _⟩ := (ord_inv h).topo i u hi
  unfold parsO at hp
  cases hf : findO os u with
  | none => rw [hf] at hp; cases hp
  | some o =>
    obtain ⟨_, h2⟩ := findO_mem hf
    rw [← h2]
    exact (oid_rng o).2
/-- a commit's depth is the same in its own order and in one around it -/
theorem laws_dep {os : List Ob} {l : List Int} {g : GS} (h : ordG os l GS.none = .ok g) {x : Int} (hx : x ∈ g.ord) : ∃ gx, ordG os [x] GS.none = .ok gx ∧ depthG os gx.ord x = depL (pairsO os g.ord) (fun _ => 0) x := by
  obtain ⟨gx, h1, h2⟩ := ord_within (m := [x]) h (fun y hy => by simp only [List.mem_singleton] at hy; subst hy; exact hx)
  refine ⟨gx, h1, ?_⟩
  have hI := ord_inv h
  have hJ := ord_inv h1
  have hF := (dep_fix hI.nd hI.topo.ahead).1
  have hG := (dep_fix hJ.nd hJ.topo.ahead).1
  exact fix_one hJ.topo.ahead (fun f y => maxD f (psO os y) 0 + 1) (fun f k y hp => by rw [maxD_congr _ _ hp]) hG (fun y hy => hF y (h2 y hy)) x (ord_heads h1 x (by simp))
theorem laws_less {os : List Ob} {l : List Int} {g : GS} (h : ordG os l GS.none = .ok g) {x : Int} (hx : x ∈ g.ord) {ps : List Int} (hp : parsO os x = some ps) : 1 ≤ depL (pairsO os g.ord) (fun _ => 0) x ∧ (∀ p ∈ ps, depL (pairsO os g.ord) (fun _ => 0) p < depL (pairsO os g.ord) (fun _ => 0) x) ∧ depL (pairsO os g.ord) (fun _ => 0) x ≤ os.length := by
  have hI := ord_inv h
  have hF := (dep_fix hI.nd hI.topo.ahead).1 x hx
  have e : psO os x = ps := by unfold psO; rw [hp]; rfl
  rw [e] at hF
  obtain ⟨h1, h2⟩ := maxD_ge (f := depL (pairsO os g.ord) (fun _ => 0)) ps 0
  have h3 := InD.dep (pairsO os g.ord) (fun _ => 0) 0 (by omega) (fun _ => ⟨Int.le_refl 0, Int.le_refl 0⟩) x
  have h4 : (pairsO os g.ord).length = g.ord.length := by unfold pairsO; rw [List.length_map]
  have h5 := ord_len h
  rw [h4] at h3
  refine ⟨by omega, fun p hp => ?_, by omega⟩
  have := h2 p hp
  omega
/-- Ancestor of two commits of an order -/
theorem laws_anc {os : List Ob} {l : List Int} {g : GS} (h : ordG os l GS.none = .ok g) {A B : Int} (hA : A ∈ g.ord) (hB : B ∈ g.ord) : ∃ gx, ordG os [A, B] GS.none = .ok gx ∧ (0 < linesG os gx.ord A B ↔ Anc (parsO os) A B) := by
  obtain ⟨gx, h1, h2⟩ := ord_within (m := [A, B]) h (fun y hy => by
    rcases List.mem_cons.1 hy with e | e
    · subst e; exact hA
    · have := List.mem_singleton.1 e; subst this; exact hB)
  have hJ := ord_inv h1
  exact ⟨gx, h1, ways_anc hJ.topo hJ.nd A B (ord_heads h1 B (by simp))⟩
theorem laws_bools {os : List Ob} {l : List Int} {g : GS} (h : ordG os l GS.none = .ok g) {A B C : Int} {n1 n2 n3 n4 : Int} (hB : B ∈ g.ord) (h1 : 0 < n1 ↔ Anc (parsO os) A B) (h2 : 0 < n2 ↔ Anc (parsO os) B C) (h3 : 0 < n3 ↔ Anc (parsO os) A C) (h4 : 0 < n4 ↔ Anc (parsO os) B A) :
    (decide (0 < n1) = true → decide (0 < n2) = true → decide (0 < n3) = true) ∧ (decide (0 < n1) = true → decide (0 < n4) = true → A = B) := by
  have hI := ord_inv h
  simp only [decide_eq_true_eq, h1, h2, h3, h4]
  exact ⟨fun a b => a.trans b, fun a b => a.anti hI.topo hI.nd b hB⟩
theorem lit_ints3 (W : World) (x y z : Int) (fz : Nat × Nat) (t : TypeId) : Ints (W.alloc (.cells #[.int .i64 x, .int .i64 y, .int .i64 z] t fz)) (some ⟨W.heap.size, 0, none⟩) 3 [x, y, z] := by
  have hb := World.alloc_heap_new W (.cells #[.int .i64 x, .int .i64 y, .int .i64 z] t fz)
  generalize W.alloc (.cells #[.int .i64 x, .int .i64 y, .int .i64 z] t fz) = W' at hb
  refine ⟨rfl, fun _ => ⟨W.heap.size, 0, rfl, fun i u hi => ?_⟩⟩
  match i, hi with
  | 0, hi => simp at hi; subst hi; simp [World.cell?, hb]
  | 1, hi => simp at hi; subst hi; simp [World.cell?, hb]
  | 2, hi => simp at hi; subst hi; simp [World.cell?, hb]
end Go.Proofs.YtncagdfbgpdhfaaGreat
