import Derived.Test.YtggnglgehobglaaL35
import Derived.Test.YtggnglgehobglaaL24
import Derived.Test.YtggnglgehobglaaL25
import Derived.Test.YtggnglgehobglaaL36
/- What New answers, plain; a fault in memory. -/
namespace Go.Proofs.Ytggnglgehobglaa
open Go.RowKit Go.Shelf Go.Maps

attribute [local go_sem] Oper.semAt_some

/-- the rules ahead of k may stand beside each other -/
def GoodU (rs : List Ru) (k : Nat) : Prop := ∀ j r, j < k → rs[j]? = some r → besE r (rs.take j) = 0
theorem besE_ok {r : Ru} {l : List Ru} (h : besE r l = 0) : okR r = true ∧ (∀ s ∈ l, s.2.1 ≠ r.2.1) ∧ ∀ s ∈ l, agrR r s = true := by
  unfold besE at h
  by_cases h1 : okR r = false
  · rw [if_pos h1] at h
    cases h
  · rw [if_neg h1] at h
    by_cases h2 : l.any (fun s : Ru => decide (s.2.1 = r.2.1)) = true
    · rw [if_pos h2] at h
      cases h
    · rw [if_neg h2] at h
      by_cases h3 : l.any (fun s : Ru => !agrR r s) = true
      · rw [if_pos h3] at h
        cases h
      · refine ⟨by simpa using h1, fun s hs e => h2 (List.any_eq_true.2 ⟨s, hs, by simpa using e⟩), fun s hs => ?_⟩
        cases ha : agrR r s with
        | true => rfl
        | false => exact absurd (List.any_eq_true.2 ⟨s, hs, by rw [ha]; rfl⟩) h3
theorem GoodU.pth {rs : List Ru} {k : Nat} (h : GoodU rs k) (hk : k ≤ rs.length) : ∀ s ∈ rs.take k, PthR s := fun s hs => by
  obtain ⟨j, hj, e⟩ := List.getElem_of_mem hs
  have hj' : j < k := by rw [List.length_take] at hj; omega
  have e2 : rs[j]? = some s := by
    rw [List.getElem_take] at e
    exact List.getElem?_eq_some_iff.2 ⟨by omega, e⟩
  exact okR_pth (besE_ok (h j s hj' e2)).1
theorem GoodU.step {rs : List Ru} {k : Nat} {r : Ru} (h : GoodU rs k) (hr : rs[k]? = some r) (h0 : besE r (rs.take k) = 0) : GoodU rs (k + 1) := fun j s hj hs => by
  by_cases e : j = k
  · subst e
    rw [hr] at hs
    cases hs
    exact h0
  · exact h j s (by omega) hs
theorem rus_take {w : World} {a : Option Addr} {n : Nat} {l : List Ru} (h : Rus w a n l) {k : Nat} (hk : k ≤ n) : Rus w a k (l.take k) := by
  refine ⟨by rw [List.length_take, h.1]; omega, fun h0 => ?_⟩
  obtain ⟨b, off, e, hc⟩ := h.2 (by omega)
  refine ⟨b, off, e, fun j x hx => hc j x ?_⟩
  rw [List.getElem?_take] at hx
  split at hx
  · exact hx
  · cases hx
/-- a fault -/
def BoxF (W : World) (p : Nat) (x y : Int) : Prop := W.heap[p]? = some (.cells #[.int .i64 x, .int .i64 y] 27 (0, 0))
theorem BoxF.lt {W : World} {p : Nat} {x y : Int} (h : BoxF W p x y) : p < W.heap.size := (Array.getElem?_eq_some_iff.1 h).1
theorem BoxF.new (W : World) (x y : Int) : BoxF (W.alloc (.cells #[.int .i64 x, .int .i64 y] 27)) W.heap.size x y := World.alloc_heap_new W _
theorem BoxF.below {W W' : World} {B p : Nat} {x y : Int} (h : BoxF W p x y) (hB : Below B W W') (hg : p < B) : BoxF W' p x y := (hB.block p hg).trans h
theorem BoxF.cell {W : World} {p : Nat} {x y : Int} (h : BoxF W p x y) : W.cell? ⟨p, 0, none⟩ = some (.int .i64 x) ∧ W.cell? ⟨p, 1, none⟩ = some (.int .i64 y) := by
  unfold BoxF at h
  refine ⟨?_, ?_⟩ <;> simp [World.cell?, h]
theorem BoxF.frozen {W : World} {p : Nat} {x y : Int} (h : BoxF W p x y) : W.frozen? ⟨p, 0, none⟩ = false ∧ W.frozen? ⟨p, 1, none⟩ = false := by
  unfold BoxF at h
  refine ⟨?_, ?_⟩ <;> simp [World.frozen?, h]
theorem BoxF.set {W : World} {p : Nat} {x y : Int} (h : BoxF W p x y) (x' y' : Int) : BoxF ((W.setCell ⟨p, 0, none⟩ (.int .i64 x')).setCell ⟨p, 1, none⟩ (.int .i64 y')) p x' y' := by
  have h' := h
  unfold BoxF at h' ⊢
  have h1 := heap_setCell_same W p 0 _ _ (.int .i64 x') h'
  have h2 := heap_setCell_same _ p 1 _ _ (.int .i64 y') h1
  exact h2
theorem BoxF.id {W : World} {p : Nat} {x y : Int} (h : BoxF W p x y) : (W.setCell ⟨p, 0, none⟩ (.int .i64 x)).setCell ⟨p, 1, none⟩ (.int .i64 y) = W := by
  have hs := h.set x y
  have e : ((W.setCell ⟨p, 0, none⟩ (.int .i64 x)).setCell ⟨p, 1, none⟩ (.int .i64 y)).heap = W.heap := by
    apply Array.ext_getElem?
    intro k
    by_cases hk : k = p
    · subst hk
      unfold BoxF at hs h
      rw [hs, h]
    · rw [Below.heap_setCell _ _ _ k hk, Below.heap_setCell _ _ _ k hk]
  have e2 : (W.setCell ⟨p, 0, none⟩ (.int .i64 x)).setCell ⟨p, 1, none⟩ (.int .i64 y) = { W with heap := ((W.setCell ⟨p, 0, none⟩ (.int .i64 x)).setCell ⟨p, 1, none⟩ (.int .i64 y)).heap } := rfl
  rw [e2, e]
theorem boxF_below (W : World) {p : Nat} (x' y' : Int) {B : Nat} (hB : B ≤ p) : Below B W ((W.setCell ⟨p, 0, none⟩ (.int .i64 x')).setCell ⟨p, 1, none⟩ (.int .i64 y')) := ((Below.refl B W).setCell (p := ⟨p, 0, none⟩) hB _).setCell (p := ⟨p, 1, none⟩) hB _
theorem fault_ret {W : World} {p : Nat} {x y : Int} {v : Value} {a : Act} {P : Ending → World → Prop} (hb : BoxF W p x y) (hv : a.tmps[2]?.getD undef = v) (ha : a.tmps[3]?.getD undef = .pointer (some ⟨p, 0, none⟩)) (hd : a.defers = []) (hP : P (.returned (.tuple #[v, .agg #[.int .i64 x, .int .i64 y]])) W) : bodyPost Try.prog Try.f6 P Exit.ret a W := by
  obtain ⟨c0, c1⟩ := hb.cell
  exact bodyPost_ret (v := .tuple #[v, .agg #[.int .i64 x, .int .i64 y]]) (by simp [results, Try.results6, go_sem, ha, hv, c0, c1]) hd hP
/-- what New answers -/
def NewR (rs : List Ru) (n : Nat) (e : Ending) (w' : World) : Prop :=
  (64 < n ∧ e = .returned (.tuple #[.pointer none, .agg #[.int .i64 3, .int .i64 (-1)]])) ∨
  (n ≤ 64 ∧ ∃ k r, rs[k]? = some r ∧ besE r (rs.take k) ≠ 0 ∧ GoodU rs k ∧ e = .returned (.tuple #[.pointer none, .agg #[.int .i64 (besE r (rs.take k)), .int .i64 (k : Int)]])) ∨
  (n ≤ 64 ∧ GoodU rs n ∧ ∃ m ks, e = .returned (.tuple #[.pointer (some ⟨m, 0, none⟩), .agg #[.int .i64 0, .int .i64 0]]) ∧ MpAt w' m (formT (tabL rs) ks) ∧ KeyL (tabL rs) ks)
theorem tabL_pth {rs : List Ru} {n : Nat} (hn : rs.length = n) (h : GoodU rs n) : FOk rs := fun r hr => by
  have := h.pth (Nat.le_of_eq hn.symm)
  rw [List.take_of_length_le (Nat.le_of_eq hn)] at this
  exact this r hr
theorem formT_ok {rs : List Ru} (h : FOk rs) (ks : List (List UInt8)) (hK : KeyL (tabL rs) ks) : FOk (formT (tabL rs) ks) := fun q hq => by
  unfold formT at hq
  obtain ⟨x, hx, e⟩ := List.mem_filterMap.1 hq
  split at e
  · cases e
    obtain ⟨r, hr⟩ := Option.isSome_iff_exists.1 ((hK.mem x).1 hx)
    rw [hr]
    have hr2 := h r (tabL_mem rs x r hr).1
    show isP (plnR r).2.1 = true ∧ isP (plnR r).2.2 = true
    unfold plnR
    split
    · exact ⟨hr2.1, show isP [] = true by decide⟩
    · exact hr2
  · cases e
end Go.Proofs.Ytggnglgehobglaa

/- Rules that New takes agree, and so does their one form. -/
namespace Go.Proofs.Ytggnglgehobglaa

theorem restP_self (l : List UInt8) : restP l l = some [] := by
  unfold restP
  by_cases h : l = []
  · rw [if_pos h, h]
  · rw [if_neg h, if_pos rfl]
theorem agr_rules {rs : List Ru} {n : Nat} (hn : rs.length = n) (h : GoodU rs n) : AgrF rs := fun r hr s hs lr ls => by
  obtain ⟨i, hi, ei⟩ := List.getElem_of_mem hr
  obtain ⟨j, hj, ej⟩ := List.getElem_of_mem hs
  have key : ∀ (i j : Nat) (a b : Ru), i < n → j < i → rs[i]? = some a → rs[j]? = some b → letsK a.1 = true → letsK b.1 = true → folR a b = true ∧ folR b a = true := fun i j a b hi hji ha hb la lb => by
    have h1 := (besE_ok (h i a hi ha)).2.2 b (List.mem_of_getElem? (by rw [List.getElem?_take_of_lt hji]; exact hb))
    unfold agrR at h1
    rw [la, lb] at h1
    simpa using h1
  have gi : rs[i]? = some r := List.getElem?_eq_some_iff.2 ⟨hi, ei⟩
  have gj : rs[j]? = some s := List.getElem?_eq_some_iff.2 ⟨hj, ej⟩
  rcases Nat.lt_trichotomy i j with hij | rfl | hij
  · have := (key j i s r (by omega) hij gj gi ls lr).2
    unfold folR at this
    simpa using this
  · rw [gi] at gj
    cases gj
    rw [restP_self, restP_self]
  · have := (key i j r s (by omega) hij gi gj lr ls).1
    unfold folR at this
    simpa using this
theorem pln_from (r : Ru) : (plnR r).2.1 = r.2.1 := by
  unfold plnR
  split <;> rfl
theorem pln_to (r : Ru) : tgtR (plnR r) = tgtR r := by
  unfold plnR
  split
  · rename_i h
    unfold tgtR
    rw [if_pos rfl, if_neg (by rw [h.1]; decide), h.2]
  · rfl
theorem pln_lets (r : Ru) : letsK (plnR r).1 = letsK r.1 := by
  unfold plnR
  split
  · rename_i h
    rw [h.1]
    rfl
  · rfl
theorem form_mem {g : Tb} {ks : List (List UInt8)} {q : Ru} (hK : KeyL g ks) (h : q ∈ formT g ks) : ∃ x r, g x = some r ∧ q = plnR r := by
  unfold formT at h
  obtain ⟨x, hx, e⟩ := List.mem_filterMap.1 h
  obtain ⟨r, hr⟩ := Option.isSome_iff_exists.1 ((hK.mem x).1 hx)
  split at e
  · cases e
    exact ⟨x, r, hr, by rw [hr]; rfl⟩
  · cases e
/-- the one form's rules agree -/
theorem form_agr {rs : List Ru} {n : Nat} {ks : List (List UInt8)} (hn : rs.length = n) (h : GoodU rs n) (hK : KeyL (tabL rs) ks) : AgrF (formT (tabL rs) ks) := fun r hr s hs lr ls => by
  obtain ⟨x, r0, hr0, rfl⟩ := form_mem hK hr
  obtain ⟨y, s0, hs0, rfl⟩ := form_mem hK hs
  rw [pln_lets] at lr ls
  rw [pln_from, pln_from, pln_to, pln_to]
  exact agr_rules hn h r0 (tabL_mem rs x r0 hr0).1 s0 (tabL_mem rs y s0 hs0).1 lr ls
end Go.Proofs.Ytggnglgehobglaa
