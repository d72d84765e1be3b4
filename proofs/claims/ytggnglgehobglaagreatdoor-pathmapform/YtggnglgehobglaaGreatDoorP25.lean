import Derived.Test.YtggnglgehobglaaGreatDoorP16
import Derived.Test.YtggnglgehobglaaGreatDoorP24
import Derived.Test.YtggnglgehobglaaGreatDoorP17
/- Images and sources by rules that agree, plain: rows as lists of names. -/
namespace Go.Proofs.YtggnglgehobglaaGreatDoor

abbrev Rw := List (List UInt8)
theorem joinR_glue (A B : Rw) (hA : Good A) (hB : Good B) : joinR (glue A) (glue B) = glue (A ++ B) := by
  unfold joinR
  by_cases h1 : A = []
  · subst h1; rw [if_pos (.inl glue_nil)]; simp [glue_nil]
  · by_cases h2 : B = []
    · subst h2; rw [if_pos (.inr glue_nil)]; simp [glue_nil]
    · rw [if_neg (fun h => h.elim (glue_ne A h1 hA) (glue_ne B h2 hB)), glue_append A B h1 h2]
theorem begS_glue : ∀ (A : Rw) (acc : List UInt8), NoStroke A → ∀ l ∈ begS acc (glue A), ∃ i, i < A.length ∧ 0 < i ∧ l = acc ++ glue (A.take i)
  | [], acc, _, l, hl => by rw [glue_nil] at hl; cases hl
  | [n], acc, h, l, hl => by
    rw [glue_one] at hl
    have := begS_run n acc [] (h n (by simp))
    rw [List.append_nil] at this
    rw [this] at hl
    cases hl
  | n :: m :: r, acc, h, l, hl => by
    rw [glue_cons n (m :: r) (by simp), begS_run n acc _ (h n (by simp))] at hl
    simp only [begS, if_true, List.mem_cons] at hl
    rcases hl with rfl | hl
    · exact ⟨1, by simp, by omega, by simp [glue_one]⟩
    · obtain ⟨i, hi, hi0, rfl⟩ := begS_glue (m :: r) (acc ++ n ++ [47]) (fun x hx => h x (by simp at hx ⊢; exact .inr hx)) l hl
      refine ⟨i + 1, by simpa using hi, by omega, ?_⟩
      rw [List.take_succ_cons, glue_cons _ _ (by
        intro e
        have := congrArg List.length e
        rw [List.length_take] at this
        simp at this hi
        omega)]
      simp
theorem begL_glue (A : Rw) (h : NoStroke A) : ∀ l ∈ begL (glue A), ∃ i, i ≤ A.length ∧ l = glue (A.take i) := by
  intro l hl
  unfold begL at hl
  split at hl
  · cases hl
  · rcases List.mem_cons.1 hl with rfl | hl
    · exact ⟨0, Nat.zero_le _, by simp [glue_nil]⟩
    · obtain ⟨i, hi, _, e⟩ := begS_glue A [] h l hl
      exact ⟨i, by omega, by simpa using e⟩
/-- the rule of a row stands at one of its beginnings -/
theorem ruleT_pre {F : List Ru} {A : Rw} (hA : Good A) : ruleT (tabL F) (glue A) = noR ∨ (ruleT (tabL F) (glue A) ∈ F ∧ ∃ i, i ≤ A.length ∧ (ruleT (tabL F) (glue A)).2.1 = glue (A.take i)) := by
  unfold ruleT
  cases h : tabL F (glue A) with
  | some r => exact .inr ⟨(tabL_mem F _ r h).1, A.length, Nat.le_refl _, by rw [List.take_length]; exact (tabL_mem F _ r h).2⟩
  | none =>
    rcases lastT_mem (tabL F) (begL (glue A)) with e | ⟨k, hk, e⟩
    · exact .inl e
    · obtain ⟨i, hi, ek⟩ := begL_glue A hA.noStroke k hk
      exact .inr ⟨(tabL_mem F k _ e).1, i, hi, (tabL_mem F k _ e).2.trans ek⟩
theorem Good.take {A : Rw} (h : Good A) (i : Nat) : Good (A.take i) := fun n hn => h n (List.mem_of_mem_take hn)
theorem Good.drop {A : Rw} (h : Good A) (i : Nat) : Good (A.drop i) := fun n hn => h n (List.mem_of_mem_drop hn)
theorem Good.app {A B : Rw} (h : Good A) (k : Good B) : Good (A ++ B) := fun n hn => (List.mem_append.1 hn).elim (h n) (k n)
/-- a rule at names: From and To -/
def frN (r : Ru) : Rw := parts r.2.1
def toN (r : Ru) : Rw := parts (tgtR r)
theorem frN_good {r : Ru} (h : PthR r) : Good (frN r) := isP_good h.1
theorem toN_good {r : Ru} (h : PthR r) : Good (toN r) := isP_good (tgtR_isP h)
theorem glue_fr (r : Ru) : glue (frN r) = r.2.1 := glue_parts _
theorem glue_to (r : Ru) : glue (toN r) = tgtR r := glue_parts _
/-- rules that agree, two by two -/
def AgrF (F : List Ru) : Prop := ∀ r ∈ F, ∀ s ∈ F, letsK r.1 = true → letsK s.1 = true → restP r.2.1 s.2.1 = restP (tgtR r) (tgtR s)
theorem agr_names {F : List Ru} (hF : FOk F) (hA : AgrF F) {r s : Ru} (hr : r ∈ F) (hs : s ∈ F) (lr : letsK r.1 = true) (ls : letsK s.1 = true) : (frN s <+: frN r ↔ toN s <+: toN r) ∧ (frN s <+: frN r → (frN r).drop (frN s).length = (toN r).drop (toN s).length) := by
  have h := hA r hr s hs lr ls
  rw [← glue_fr r, ← glue_fr s, ← glue_to r, ← glue_to s, restP_glue _ _ (frN_good (hF r hr)) (frN_good (hF s hs)), restP_glue _ _ (toN_good (hF r hr)) (toN_good (hF s hs))] at h
  by_cases h1 : frN s <+: frN r
  · rw [if_pos h1] at h
    by_cases h2 : toN s <+: toN r
    · rw [if_pos h2] at h
      refine ⟨⟨fun _ => h2, fun _ => h1⟩, fun _ => ?_⟩
      have e := congrArg parts (Option.some.inj h)
      rw [parts_glue _ ((frN_good (hF r hr)).drop _), parts_glue _ ((toN_good (hF r hr)).drop _)] at e
      exact e
    · rw [if_neg h2] at h; cases h
  · rw [if_neg h1] at h
    by_cases h2 : toN s <+: toN r
    · rw [if_pos h2] at h; cases h
    · exact ⟨⟨fun k => absurd k h1, fun k => absurd k h2⟩, fun k => absurd k h1⟩
/-- what lies in a From goes to where it lies in the To: the shape that both have -/
theorem agr_shape {F : List Ru} (hF : FOk F) (hA : AgrF F) {r s : Ru} (hr : r ∈ F) (hs : s ∈ F) (lr : letsK r.1 = true) (ls : letsK s.1 = true) (h : frN s <+: frN r ∨ toN s <+: toN r) : ∃ d, frN r = frN s ++ d ∧ toN r = toN s ++ d := by
  obtain ⟨h1, h2⟩ := agr_names hF hA hr hs lr ls
  have hf : frN s <+: frN r := h.elim id h1.2
  have ht := h1.1 hf
  have he := h2 hf
  obtain ⟨d, hd⟩ := hf
  obtain ⟨d', hd'⟩ := ht
  rw [← hd, ← hd', List.drop_left, List.drop_left] at he
  exact ⟨d, hd.symm, by rw [he]; exact hd'.symm⟩
theorem img_shape {F : List Ru} (hF : FOk F) {A : Rw} (hA : Good A) {x : List UInt8} (h : imgL F (glue A) = some x) : ∃ r ∈ F, letsK r.1 = true ∧ ∃ d, A = frN r ++ d ∧ x = glue (toN r ++ d) := by
  unfold imgL at h
  rcases ruleT_pre (F := F) hA with e | ⟨hm, i, hi, e⟩
  · rw [e] at h; cases h
  · generalize ruleT (tabL F) (glue A) = r at *
    by_cases hl : letsK r.1 = true
    · rw [if_pos hl] at h
      have hfr : frN r = A.take i := by unfold frN; rw [e, parts_glue _ (hA.take i)]
      refine ⟨r, hm, hl, A.drop i, by rw [hfr, List.take_append_drop], ?_⟩
      have h' := (Option.some.inj h).symm
      rw [h', ← glue_to r, e, restP_glue A (A.take i) hA (hA.take i), if_pos (List.take_prefix i A), Option.getD_some, List.length_take, Nat.min_eq_left hi, joinR_glue _ _ (toN_good (hF r hm)) (hA.drop i)]
    · rw [if_neg hl] at h; cases h
theorem img_lets {F : List Ru} {l x : List UInt8} (h : imgL F l = some x) : letsK (ruleT (tabL F) l).1 = true := by
  unfold imgL at h
  split at h
  · assumption
  · cases h
theorem prefix_pair {α : Type} {a b x y : List α} (h : a ++ x = b ++ y) : a <+: b ∨ b <+: a := by
  rcases List.append_eq_append_iff.1 h with ⟨d, e, _⟩ | ⟨d, e, _⟩
  · exact .inl ⟨d, e.symm⟩
  · exact .inr ⟨d, e.symm⟩
/-- two rules' shapes on one row, or on one image, lead to the same -/
theorem shape_same {F : List Ru} (hF : FOk F) (hA : AgrF F) {r s : Ru} (hr : r ∈ F) (hs : s ∈ F) (lr : letsK r.1 = true) (ls : letsK s.1 = true) {d e : Rw} : frN r ++ d = frN s ++ e ↔ toN r ++ d = toN s ++ e := by
  constructor
  · intro h
    rcases prefix_pair h with k | k
    · obtain ⟨c, h1, h2⟩ := agr_shape hF hA hs hr ls lr (.inl k)
      rw [h1, List.append_assoc] at h
      rw [h2, List.append_assoc, List.append_cancel_left h]
    · obtain ⟨c, h1, h2⟩ := agr_shape hF hA hr hs lr ls (.inl k)
      rw [h1, List.append_assoc] at h
      rw [h2, List.append_assoc, List.append_cancel_left h]
  · intro h
    rcases prefix_pair h with k | k
    · obtain ⟨c, h1, h2⟩ := agr_shape hF hA hs hr ls lr (.inr k)
      rw [h2, List.append_assoc] at h
      rw [h1, List.append_assoc, List.append_cancel_left h]
    · obtain ⟨c, h1, h2⟩ := agr_shape hF hA hr hs lr ls (.inr k)
      rw [h2, List.append_assoc] at h
      rw [h1, List.append_assoc, List.append_cancel_left h]
theorem shape_in {F : List Ru} (hF : FOk F) (hA : AgrF F) {r s : Ru} (hr : r ∈ F) (hs : s ∈ F) (lr : letsK r.1 = true) (ls : letsK s.1 = true) {d e : Rw} : frN s ++ e <+: frN r ++ d ↔ toN s ++ e <+: toN r ++ d := by
  constructor
  · rintro ⟨t, h⟩
    refine ⟨t, ?_⟩
    rw [List.append_assoc] at h ⊢
    exact (shape_same hF hA hs hr ls lr).1 h
  · rintro ⟨t, h⟩
    refine ⟨t, ?_⟩
    rw [List.append_assoc] at h ⊢
    exact (shape_same hF hA hs hr ls lr).2 h
/-- source, at names: by the first rule in whose To it lies -/
theorem src_some {F : List Ru} (G : List Ru) (hG : ∀ r ∈ G, r ∈ F) (hF : FOk F) {X : Rw} (hX : Good X) {l : List UInt8} (h : srcR F G (glue X) = some l) : ∃ r ∈ F, letsK r.1 = true ∧ ∃ d, X = toN r ++ d ∧ l = glue (frN r ++ d) ∧ letsK (ruleT (tabL F) l).1 = true := by
  induction G with
  | nil => cases h
  | cons r G ih =>
    have hr := hG r (by simp)
    have ih' := ih (fun s hs => hG s (by simp [hs]))
    simp only [srcR] at h
    by_cases hl : letsK r.1 = true
    · rw [if_pos hl, ← glue_to r, restP_glue X (toN r) hX (toN_good (hF r hr))] at h
      by_cases hp : toN r <+: X
      · rw [if_pos hp] at h
        obtain ⟨d, hd⟩ := hp
        have e : X.drop (toN r).length = d := by rw [← hd, List.drop_left]
        simp only [e] at h
        have hdg : Good d := by rw [← e]; exact hX.drop _
        rw [← glue_fr r, joinR_glue _ _ (frN_good (hF r hr)) hdg] at h
        split at h
        · rename_i hlt
          have hl' := (Option.some.inj h).symm
          exact ⟨r, hr, hl, d, hd.symm, hl', by rw [hl']; exact hlt⟩
        · cases h
      · rw [if_neg hp] at h
        exact ih' h
    · rw [if_neg hl] at h
      exact ih' h
theorem src_of {F : List Ru} (G : List Ru) (hG : ∀ r ∈ G, r ∈ F) (hF : FOk F) (hA : AgrF F) {r : Ru} (hr : r ∈ F) (hrG : r ∈ G) (lr : letsK r.1 = true) {d : Rw} (hd : Good d) (hlt : letsK (ruleT (tabL F) (glue (frN r ++ d))).1 = true) : srcR F G (glue (toN r ++ d)) = some (glue (frN r ++ d)) := by
  induction G with
  | nil => cases hrG
  | cons s G ih =>
    have hs := hG s (by simp)
    have hX : Good (toN r ++ d) := (toN_good (hF r hr)).app hd
    simp only [srcR]
    by_cases hl : letsK s.1 = true
    · rw [if_pos hl, ← glue_to s, restP_glue _ (toN s) hX (toN_good (hF s hs))]
      by_cases hp : toN s <+: toN r ++ d
      · rw [if_pos hp]
        obtain ⟨e, he⟩ := hp
        have e1 : (toN r ++ d).drop (toN s).length = e := by rw [← he, List.drop_left]
        simp only [e1]
        have heg : Good e := by rw [← e1]; exact hX.drop _
        have hsame := (shape_same hF hA hs hr hl lr).2 he
        rw [← glue_fr s, joinR_glue _ _ (frN_good (hF s hs)) heg, hsame, if_pos hlt]
      · rw [if_neg hp]
        rcases List.mem_cons.1 hrG with e | e
        · subst e; exact absurd (List.prefix_append _ _) hp
        · exact ih (fun x hx => hG x (by simp [hx])) e
    · rw [if_neg hl]
      rcases List.mem_cons.1 hrG with e | e
      · subst e; exact absurd lr hl
      · exact ih (fun x hx => hG x (by simp [hx])) e
/-- the way back from an image -/
theorem there_back {F : List Ru} (hF : FOk F) (hA : AgrF F) {A : Rw} (hAg : Good A) {x : List UInt8} (h : imgL F (glue A) = some x) : srcL F x = some (glue A) := by
  have hlt := img_lets h
  obtain ⟨r, hr, lr, d, rfl, rfl⟩ := img_shape hF hAg h
  have hd : Good d := fun n hn => hAg n (List.mem_append.2 (.inr hn))
  exact src_of F (fun _ h => h) hF hA hr hr lr hd hlt
/-- the way there from a source -/
theorem back_there {F : List Ru} (hF : FOk F) (hA : AgrF F) {X : Rw} (hX : Good X) {l : List UInt8} (h : srcL F (glue X) = some l) : imgL F l = some (glue X) := by
  obtain ⟨r, hr, lr, d, rfl, rfl, hlt⟩ := src_some F (fun _ h => h) hF hX h
  have hd : Good d := fun n hn => hX n (List.mem_append.2 (.inr hn))
  have hg : Good (frN r ++ d) := (frN_good (hF r hr)).app hd
  have hi : ∃ x, imgL F (glue (frN r ++ d)) = some x := by unfold imgL; rw [if_pos hlt]; exact ⟨_, rfl⟩
  obtain ⟨x, hx⟩ := hi
  obtain ⟨s, hs, ls, e, h1, h2⟩ := img_shape hF hg hx
  rw [hx, h2, (shape_same hF hA hr hs lr ls).1 h1]
/-- images lie in one another just as what they are the images of -/
theorem in_images {F : List Ru} (hF : FOk F) (hA : AgrF F) {A B : Rw} (hAg : Good A) (hBg : Good B) {x y : List UInt8} (hx : imgL F (glue A) = some x) (hy : imgL F (glue B) = some y) : (B <+: A ↔ parts y <+: parts x) ∧ (A = B ↔ x = y) := by
  obtain ⟨r, hr, lr, d, rfl, rfl⟩ := img_shape hF hAg hx
  obtain ⟨s, hs, ls, e, rfl, rfl⟩ := img_shape hF hBg hy
  have hd : Good d := fun n hn => hAg n (List.mem_append.2 (.inr hn))
  have he : Good e := fun n hn => hBg n (List.mem_append.2 (.inr hn))
  have g1 : Good (toN r ++ d) := (toN_good (hF r hr)).app hd
  have g2 : Good (toN s ++ e) := (toN_good (hF s hs)).app he
  refine ⟨?_, ?_⟩
  · rw [parts_glue _ g1, parts_glue _ g2]
    exact shape_in hF hA hr hs lr ls
  · rw [shape_same hF hA hr hs lr ls]
    constructor
    · intro h; rw [h]
    · intro h
      have := congrArg parts h
      rw [parts_glue _ g1, parts_glue _ g2] at this
      exact this
end Go.Proofs.YtggnglgehobglaaGreatDoor

/- What New answers, plain; a fault in memory. -/
namespace Go.Proofs.YtggnglgehobglaaGreatDoor
open Go.RowKit Go.Shelf Go.Maps

attribute [local go_sem] Oper.semAt_some

/-- the rules ahead of k may stand beside each other -/
def GoodU (rs : List Ru) (k : Nat) : Prop := ∀ j r, j < k → rs[j]? = some r → besE r (rs.take j) = 0
theorem besE_ok {r : Ru} {l : List Ru} (h : besE r l = 0) : okR r = true ∧ (∀ s ∈ l, s.2.1 ≠ r.2.1) ∧ ∀ s ∈ l, agrR r s = true := by
  unfold besE at h
  by_cases h1 : okR r = false
  · rw [if_pos h1] at h
    cases h
  · rw [if_neg h1] at h
    by_cases h2 : l.any (fun s : Ru => decide (s.2.1 = r.2.1)) = true
    · rw [if_pos h2] at h
      cases h
    · rw [if_neg h2] at h
      by_cases h3 : l.any (fun s : Ru => !agrR r s) = true
      · rw [if_pos h3] at h
        cases h
      · refine ⟨by simpa using h1, fun s hs e => h2 (List.any_eq_true.2 ⟨s, hs, by simpa using e⟩), fun s hs => ?_⟩
        cases ha : agrR r s with
        | true => rfl
        | false => exact absurd (List.any_eq_true.2 ⟨s, hs, by rw [ha]; rfl⟩) h3
theorem GoodU.pth {rs : List Ru} {k : Nat} (h : GoodU rs k) (hk : k ≤ rs.length) : ∀ s ∈ rs.take k, PthR s := fun s hs => by
  obtain ⟨j, hj, e⟩ := List.getElem_of_mem hs
  have hj' : j < k := by rw [List.length_take] at hj; omega
  have e2 : rs[j]? = some s := by
    rw [List.getElem_take] at e
    exact List.getElem?_eq_some_iff.2 ⟨by omega, e⟩
  exact okR_pth (besE_ok (h j s hj' e2)).1
theorem GoodU.step {rs : List Ru} {k : Nat} {r : Ru} (h : GoodU rs k) (hr : rs[k]? = some r) (h0 : besE r (rs.take k) = 0) : GoodU rs (k + 1) := fun j s hj hs => by
  by_cases e : j = k
  · subst e
    rw [hr] at hs
    cases hs
    exact h0
  · exact h j s (by omega) hs
theorem rus_take {w : World} {a : Option Addr} {n : Nat} {l : List Ru} (h : Rus w a n l) {k : Nat} (hk : k ≤ n) : Rus w a k (l.take k) := by
  refine ⟨by rw [List.length_take, h.1]; omega, fun h0 => ?_⟩
  obtain ⟨b, off, e, hc⟩ := h.2 (by omega)
  refine ⟨b, off, e, fun j x hx => hc j x ?_⟩
  rw [List.getElem?_take] at hx
  split at hx
  · exact hx
  · cases hx
/-- a fault -/
def BoxF (W : World) (p : Nat) (x y : Int) : Prop := W.heap[p]? = some (.cells #[.int .i64 x, .int .i64 y] 45 (0, 0))
theorem BoxF.lt {W : World} {p : Nat} {x y : Int} (h : BoxF W p x y) : p < W.heap.size := (Array.getElem?_eq_some_iff.1 h).1
theorem BoxF.new (W : World) (x y : Int) : BoxF (W.alloc (.cells #[.int .i64 x, .int .i64 y] 45)) W.heap.size x y := World.alloc_heap_new W _
theorem BoxF.below {W W' : World} {B p : Nat} {x y : Int} (h : BoxF W p x y) (hB : Below B W W') (hg : p < B) : BoxF W' p x y := (hB.block p hg).trans h
theorem BoxF.cell {W : World} {p : Nat} {x y : Int} (h : BoxF W p x y) : W.cell? ⟨p, 0, none⟩ = some (.int .i64 x) ∧ W.cell? ⟨p, 1, none⟩ = some (.int .i64 y) := by
  unfold BoxF at h
  refine ⟨?_, ?_⟩ <;> simp [World.cell?, h]
theorem BoxF.frozen {W : World} {p : Nat} {x y : Int} (h : BoxF W p x y) : W.frozen? ⟨p, 0, none⟩ = false ∧ W.frozen? ⟨p, 1, none⟩ = false := by
  unfold BoxF at h
  refine ⟨?_, ?_⟩ <;> simp [World.frozen?, h]
theorem BoxF.set {W : World} {p : Nat} {x y : Int} (h : BoxF W p x y) (x' y' : Int) : BoxF ((W.setCell ⟨p, 0, none⟩ (.int .i64 x')).setCell ⟨p, 1, none⟩ (.int .i64 y')) p x' y' := by
  have h' := h
  unfold BoxF at h' ⊢
  have h1 := heap_setCell_same W p 0 _ _ (.int .i64 x') h'
  have h2 := heap_setCell_same _ p 1 _ _ (.int .i64 y') h1
  exact h2
theorem BoxF.id {W : World} {p : Nat} {x y : Int} (h : BoxF W p x y) : (W.setCell ⟨p, 0, none⟩ (.int .i64 x)).setCell ⟨p, 1, none⟩ (.int .i64 y) = W := by
  have hs := h.set x y
  have e : ((W.setCell ⟨p, 0, none⟩ (.int .i64 x)).setCell ⟨p, 1, none⟩ (.int .i64 y)).heap = W.heap := by
    apply Array.ext_getElem?
    intro k
    by_cases hk : k = p
    · subst hk
      unfold BoxF at hs h
      rw [hs, h]
    · rw [Below.heap_setCell _ _ _ k hk, Below.heap_setCell _ _ _ k hk]
  have e2 : (W.setCell ⟨p, 0, none⟩ (.int .i64 x)).setCell ⟨p, 1, none⟩ (.int .i64 y) = { W with heap := ((W.setCell ⟨p, 0, none⟩ (.int .i64 x)).setCell ⟨p, 1, none⟩ (.int .i64 y)).heap } := rfl
  rw [e2, e]
theorem boxF_below (W : World) {p : Nat} (x' y' : Int) {B : Nat} (hB : B ≤ p) : Below B W ((W.setCell ⟨p, 0, none⟩ (.int .i64 x')).setCell ⟨p, 1, none⟩ (.int .i64 y')) := ((Below.refl B W).setCell (p := ⟨p, 0, none⟩) hB _).setCell (p := ⟨p, 1, none⟩) hB _
theorem fault_ret {W : World} {p : Nat} {x y : Int} {v : Value} {a : Act} {P : Ending → World → Prop} (hb : BoxF W p x y) (hv : a.tmps[2]?.getD undef = v) (ha : a.tmps[3]?.getD undef = .pointer (some ⟨p, 0, none⟩)) (hd : a.defers = []) (hP : P (.returned (.tuple #[v, .agg #[.int .i64 x, .int .i64 y]])) W) : bodyPost Tryz.prog Tryz.f20 P Exit.ret a W := by
  obtain ⟨c0, c1⟩ := hb.cell
  exact bodyPost_ret (v := .tuple #[v, .agg #[.int .i64 x, .int .i64 y]]) (by simp [results, Tryz.results20, go_sem, ha, hv, c0, c1]) hd hP
/-- what New answers -/
def NewR (rs : List Ru) (n : Nat) (e : Ending) (w' : World) : Prop :=
  (64 < n ∧ e = .returned (.tuple #[.pointer none, .agg #[.int .i64 3, .int .i64 (-1)]])) ∨
  (n ≤ 64 ∧ ∃ k r, rs[k]? = some r ∧ besE r (rs.take k) ≠ 0 ∧ GoodU rs k ∧ e = .returned (.tuple #[.pointer none, .agg #[.int .i64 (besE r (rs.take k)), .int .i64 (k : Int)]])) ∨
  (n ≤ 64 ∧ GoodU rs n ∧ ∃ m ks, e = .returned (.tuple #[.pointer (some ⟨m, 0, none⟩), .agg #[.int .i64 0, .int .i64 0]]) ∧ MpAt w' m (formT (tabL rs) ks) ∧ KeyL (tabL rs) ks)
theorem tabL_pth {rs : List Ru} {n : Nat} (hn : rs.length = n) (h : GoodU rs n) : FOk rs := fun r hr => by
  have := h.pth (Nat.le_of_eq hn.symm)
  rw [List.take_of_length_le (Nat.le_of_eq hn)] at this
  exact this r hr
theorem formT_ok {rs : List Ru} (h : FOk rs) (ks : List (List UInt8)) (hK : KeyL (tabL rs) ks) : FOk (formT (tabL rs) ks) := fun q hq => by
  unfold formT at hq
  obtain ⟨x, hx, e⟩ := List.mem_filterMap.1 hq
  split at e
  · cases e
    obtain ⟨r, hr⟩ := Option.isSome_iff_exists.1 ((hK.mem x).1 hx)
    rw [hr]
    have hr2 := h r (tabL_mem rs x r hr).1
    show isP (plnR r).2.1 = true ∧ isP (plnR r).2.2 = true
    unfold plnR
    split
    · exact ⟨hr2.1, show isP [] = true by decide⟩
    · exact hr2
  · cases e
end Go.Proofs.YtggnglgehobglaaGreatDoor

/- Rules that New takes agree, and so does their one form. -/
namespace Go.Proofs.YtggnglgehobglaaGreatDoor

theorem restP_self (l : List UInt8) : restP l l = some [] := by
  unfold restP
  by_cases h : l = []
  · rw [if_pos h, h]
  · rw [if_neg h, if_pos rfl]
theorem agr_rules {rs : List Ru} {n : Nat} (hn : rs.length = n) (h : GoodU rs n) : AgrF rs := fun r hr s hs lr ls => by
  obtain ⟨i, hi, ei⟩ := List.getElem_of_mem hr
  obtain ⟨j, hj, ej⟩ := List.getElem_of_mem hs
  have key : ∀ (i j : Nat) (a b : Ru), i < n → j < i → rs[i]? = some a → rs[j]? = some b → letsK a.1 = true → letsK b.1 = true → folR a b = true ∧ folR b a = true := fun i j a b hi hji ha hb la lb => by
    have h1 := (besE_ok (h i a hi ha)).2.2 b (List.mem_of_getElem? (by rw [List.getElem?_take_of_lt hji]; exact hb))
    unfold agrR at h1
    rw [la, lb] at h1
    simpa using h1
  have gi : rs[i]? = some r := List.getElem?_eq_some_iff.2 ⟨hi, ei⟩
  have gj : rs[j]? = some s := List.getElem?_eq_some_iff.2 ⟨hj, ej⟩
  rcases Nat.lt_trichotomy i j with hij | rfl | hij
  · have := (key j i s r (by omega) hij gj gi ls lr).2
    unfold folR at this
    simpa using this
  · rw [gi] at gj
    cases gj
    rw [restP_self, restP_self]
  · have := (key i j r s (by omega) hij gi gj lr ls).1
    unfold folR at this
    simpa using this
theorem pln_from (r : Ru) : (plnR r).2.1 = r.2.1 := by
  unfold plnR
  split <;> rfl
theorem pln_to (r : Ru) : tgtR (plnR r) = tgtR r := by
  unfold plnR
  split
  · rename_i h
    unfold tgtR
    rw [if_pos rfl, if_neg (by rw [h.1]; decide), h.2]
  · rfl
theorem pln_lets (r : Ru) : letsK (plnR r).1 = letsK r.1 := by
  unfold plnR
  split
  · rename_i h
    rw [h.1]
    rfl
  · rfl
theorem form_mem {g : Tb} {ks : List (List UInt8)} {q : Ru} (hK : KeyL g ks) (h : q ∈ formT g ks) : ∃ x r, g x = some r ∧ q = plnR r := by
  unfold formT at h
  obtain ⟨x, hx, e⟩ := List.mem_filterMap.1 h
  obtain ⟨r, hr⟩ := Option.isSome_iff_exists.1 ((hK.mem x).1 hx)
  split at e
  · cases e
    exact ⟨x, r, hr, by rw [hr]; rfl⟩
  · cases e
/-- the one form's rules agree -/
theorem form_agr {rs : List Ru} {n : Nat} {ks : List (List UInt8)} (hn : rs.length = n) (h : GoodU rs n) (hK : KeyL (tabL rs) ks) : AgrF (formT (tabL rs) ks) := fun r hr s hs lr ls => by
  obtain ⟨x, r0, hr0, rfl⟩ := form_mem hK hr
  obtain ⟨y, s0, hs0, rfl⟩ := form_mem hK hs
  rw [pln_lets] at lr ls
  rw [pln_from, pln_from, pln_to, pln_to]
  exact agr_rules hn h r0 (tabL_mem rs x r0 hr0).1 s0 (tabL_mem rs y s0 hs0).1 lr ls
end Go.Proofs.YtggnglgehobglaaGreatDoor
