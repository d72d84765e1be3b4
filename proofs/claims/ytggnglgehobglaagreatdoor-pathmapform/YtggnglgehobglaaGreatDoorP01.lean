import Derived.Laws.RangeAny
import Derived.WalkKit
/- Rules as a table on rows of names, plain: images, the one form, the way back, one table behind another. Of no program. -/
namespace Go.Proofs.YtggnglgehobglaaGreatDoor

/-- a table: none: no rule; some none: dropped; some (some T): moved to T -/
abbrev Ht (α : Type) := List α → Option (Option (List α))
section
variable {α : Type}
def imF (h : Ht α) : List α → Option (List α) → List α → Option (List α)
  | _, cur, [] => cur
  | pre, cur, n :: t => imF h (pre ++ [n]) ((h (pre ++ [n])).getD (cur.map (· ++ [n]))) t
/-- the image of a row -/
def imN (h : Ht α) (A : List α) : Option (List α) := imF h [] ((h []).getD none) A
theorem imF_snoc (h : Ht α) (n : α) : ∀ (A pre : List α) (cur : Option (List α)), imF h pre cur (A ++ [n]) = (h (pre ++ A ++ [n])).getD ((imF h pre cur A).map (· ++ [n]))
  | [], pre, cur => by simp [imF]
  | m :: t, pre, cur => by
    simp only [List.cons_append, imF]
    rw [imF_snoc h n t]
    simp
theorem imN_nil (h : Ht α) : imN h [] = (h []).getD none := rfl
theorem imN_snoc (h : Ht α) (A : List α) (n : α) : imN h (A ++ [n]) = (h (A ++ [n])).getD ((imN h A).map (· ++ [n])) := by
  unfold imN
  rw [imF_snoc]
  simp
/-- a list is empty, or has a last one -/
theorem snoc_cases (A : List α) : A = [] ∨ ∃ B n, A = B ++ [n] := by
  rcases List.eq_nil_or_concat A with h | ⟨B, n, h⟩
  · exact .inl h
  · exact .inr ⟨B, n, by simpa using h⟩
theorem snoc_ind {P : List α → Prop} (h0 : P []) (h1 : ∀ A n, P A → P (A ++ [n])) (A : List α) : P A := by
  have key : ∀ k (A : List α), A.length = k → P A := by
    intro k
    induction k with
    | zero => intro A h; rw [List.length_eq_zero_iff.1 h]; exact h0
    | succ k ih =>
      intro A h
      rcases snoc_cases A with rfl | ⟨B, n, rfl⟩
      · exact h0
      · exact h1 B n (ih B (by simpa using h))
  exact key _ A rfl
/-- what the image would be without a rule of just that row -/
def upI (h : Ht α) (A : List α) : Option (List α) := match A.getLast? with
  | none => none
  | some n => (imN h A.dropLast).map (· ++ [n])
theorem upI_nil (h : Ht α) : upI h [] = none := rfl
theorem upI_snoc (h : Ht α) (A : List α) (n : α) : upI h (A ++ [n]) = (imN h A).map (· ++ [n]) := by
  unfold upI
  simp
theorem imN_up (h : Ht α) (A : List α) : imN h A = (h A).getD (upI h A) := by
  rcases snoc_cases A with rfl | ⟨B, n, rfl⟩
  · rfl
  · rw [imN_snoc, upI_snoc]
/-- rules that agree -/
def AgH (h : Ht α) : Prop := ∀ A B T U d, h A = some (some T) → h B = some (some U) → (A = B ++ d ↔ T = U ++ d)
theorem im_shape {h : Ht α} (A : List α) : ∀ X, imN h A = some X → ∃ B T d, h B = some (some T) ∧ A = B ++ d ∧ X = T ++ d := by
  refine snoc_ind (P := fun A => ∀ X, imN h A = some X → ∃ B T d, h B = some (some T) ∧ A = B ++ d ∧ X = T ++ d) ?_ ?_ A
  · intro X e
    rw [imN_nil] at e
    cases hh : h [] with
    | none => rw [hh] at e; cases e
    | some s =>
      rw [hh] at e
      have e' : s = some X := e
      exact ⟨[], X, [], by rw [hh, e'], by simp, by simp⟩
  · intro A n ih X e
    rw [imN_snoc] at e
    cases hh : h (A ++ [n]) with
    | none =>
      rw [hh, Option.getD_none] at e
      cases hi : imN h A with
      | none => rw [hi] at e; cases e
      | some Y =>
        rw [hi] at e
        have e' : X = Y ++ [n] := (Option.some.inj e).symm
        obtain ⟨B, T, d, h1, h2, h3⟩ := ih Y hi
        exact ⟨B, T, d ++ [n], h1, by rw [h2, List.append_assoc], by rw [e', h3, List.append_assoc]⟩
    | some s =>
      rw [hh] at e
      have e' : s = some X := e
      exact ⟨A ++ [n], X, [], by rw [hh, e'], by simp, by simp⟩
theorem app_pair {a b x y : List α} (h : a ++ x = b ++ y) : (∃ c, a = b ++ c ∧ y = c ++ x) ∨ ∃ c, b = a ++ c ∧ x = c ++ y := by
  rcases List.append_eq_append_iff.1 h with ⟨d, e, f⟩ | ⟨d, e, f⟩
  · exact .inr ⟨d, e, f⟩
  · exact .inl ⟨d, e, f⟩
theorem AgH.shape {h : Ht α} (ha : AgH h) {A B T U d e : List α} (hA : h A = some (some T)) (hB : h B = some (some U)) : A ++ d = B ++ e ↔ T ++ d = U ++ e := by
  constructor
  · intro k
    rcases app_pair k with ⟨c, h1, h2⟩ | ⟨c, h1, h2⟩
    · rw [(ha A B T U c hA hB).1 h1, h2, List.append_assoc]
    · rw [(ha B A U T c hB hA).1 h1, h2, List.append_assoc]
  · intro k
    rcases app_pair k with ⟨c, h1, h2⟩ | ⟨c, h1, h2⟩
    · rw [(ha A B T U c hA hB).2 h1, h2, List.append_assoc]
    · rw [(ha B A U T c hB hA).2 h1, h2, List.append_assoc]
/-- images lie in one another just as what they are the images of -/
theorem AgH.inj {h : Ht α} (ha : AgH h) {A B X Y : List α} (hA : imN h A = some X) (hB : imN h B = some Y) (d : List α) : A = B ++ d ↔ X = Y ++ d := by
  obtain ⟨A', T, a, h1, rfl, rfl⟩ := im_shape A X hA
  obtain ⟨B', U, b, h2, rfl, rfl⟩ := im_shape B Y hB
  rw [List.append_assoc, List.append_assoc]
  exact ha.shape h1 h2
theorem AgH.inj0 {h : Ht α} (ha : AgH h) {A B X : List α} (hA : imN h A = some X) (hB : imN h B = some X) : A = B := by
  have := (ha.inj hA hB []).2 (by simp)
  simpa using this
theorem AgH.own {h : Ht α} (ha : AgH h) {A T Y : List α} (hA : h A = some (some T)) (hu : upI h A = some Y) : T = Y := by
  rcases snoc_cases A with rfl | ⟨B, n, rfl⟩
  · cases hu
  · rw [upI_snoc] at hu
    cases hi : imN h B with
    | none => rw [hi] at hu; cases hu
    | some X =>
      rw [hi] at hu
      have e : Y = X ++ [n] := (Option.some.inj hu).symm
      have h1 : imN h (B ++ [n]) = some T := by rw [imN_up, hA]; rfl
      rw [e]
      exact (ha.inj h1 hi [n]).1 rfl
/-- the rules that say otherwise than their upper rules -/
def foH (h : Ht α) : Ht α := fun A => match h A with
  | none => none
  | some s => if s.isSome = (upI h A).isSome then none else some s
theorem im_up_congr {h k : Ht α} (A : List α) (hi : ∀ B n, A = B ++ [n] → imN h B = imN k B) : upI h A = upI k A := by
  rcases snoc_cases A with rfl | ⟨B, n, rfl⟩
  · rfl
  · rw [upI_snoc, upI_snoc, hi B n rfl]
theorem fo_im {h : Ht α} (ha : AgH h) (A : List α) : imN (foH h) A = imN h A := by
  have key : ∀ A, upI (foH h) A = upI h A → imN (foH h) A = imN h A := by
    intro A hu
    rw [imN_up, imN_up, hu]
    unfold foH
    cases hh : h A with
    | none => rfl
    | some s =>
      simp only
      by_cases e : s.isSome = (upI h A).isSome
      · rw [if_pos e]
        show upI h A = s
        cases hs : s with
        | none =>
          rw [hs] at e
          cases hu2 : upI h A with
          | none => rfl
          | some Y => rw [hu2] at e; cases e
        | some T =>
          rw [hs] at e hh
          cases hu2 : upI h A with
          | none => rw [hu2] at e; cases e
          | some Y => rw [ha.own hh hu2]
      · rw [if_neg e]
  refine snoc_ind (P := fun A => imN (foH h) A = imN h A) (key [] rfl) (fun A n ih => key _ ?_) A
  rw [upI_snoc, upI_snoc, ih]
/-- a table that is a one form -/
def IsFo (h : Ht α) : Prop := ∀ A s, h A = some s → s.isSome ≠ (upI h A).isSome
theorem fo_isFo {h : Ht α} (ha : AgH h) : IsFo (foH h) := fun A s e => by
  rw [im_up_congr (k := h) A (fun B n _ => fo_im ha B)]
  unfold foH at e
  cases hh : h A with
  | none => rw [hh] at e; cases e
  | some s' =>
    rw [hh] at e
    simp only at e
    by_cases k : s'.isSome = (upI h A).isSome
    · rw [if_pos k] at e; cases e
    · rw [if_neg k] at e
      cases e
      exact k
/-- a one form is told by its images -/
theorem isFo_of {h : Ht α} (hf : IsFo h) (A : List α) : h A = if (imN h A).isSome = (upI h A).isSome then none else some (imN h A) := by
  cases hh : h A with
  | none => rw [imN_up, hh]; simp
  | some s =>
    have e : imN h A = s := by rw [imN_up, hh]; rfl
    rw [e, if_neg (hf A s hh)]
theorem isFo_eq {h k : Ht α} (hf : IsFo h) (kf : IsFo k) (he : ∀ A, imN h A = imN k A) (A : List α) : h A = k A := by
  rw [isFo_of hf, isFo_of kf, he, im_up_congr (k := k) A (fun B n _ => he B)]
theorem fo_agr {h : Ht α} (ha : AgH h) : AgH (foH h) := by
  have key : ∀ A s, foH h A = some s → h A = some s := fun A s e => by
    unfold foH at e
    cases hh : h A with
    | none => rw [hh] at e; cases e
    | some s' =>
      rw [hh] at e
      simp only at e
      by_cases k : s'.isSome = (upI h A).isSome
      · rw [if_pos k] at e; cases e
      · rw [if_neg k] at e; exact e
  exact fun A B T U d h1 h2 => ha A B T U d (key _ _ h1) (key _ _ h2)
/-! the way back -/
/-- the table that leads back; drops stand where p holds of them -/
structure BackH (h : Ht α) (p : List α → Prop) (b : Ht α) : Prop where
  to : ∀ A T, h A = some (some T) ↔ b T = some (some A)
  dr : ∀ Y, b Y = some none ↔ ∃ A, h A = some none ∧ upI h A = some Y ∧ p Y
theorem BackH.agr {h b : Ht α} {p : List α → Prop} (hb : BackH h p b) (ha : AgH h) : AgH b := fun A B T U d h1 h2 => (ha T U A B d ((hb.to T A).2 h1) ((hb.to U B).2 h2)).symm
theorem BackH.im {h b : Ht α} {p : List α → Prop} (hb : BackH h p b) (ha : AgH h) (hp : ∀ X n, p (X ++ [n]) → p X) (X : List α) : p X → ∀ A, imN b X = some A ↔ imN h A = some X := by
  refine snoc_ind (P := fun X => p X → ∀ A, imN b X = some A ↔ imN h A = some X) ?_ ?_ X
  · intro _ A
    constructor
    · intro e
      rw [imN_nil] at e
      cases hh : b [] with
      | none => rw [hh] at e; cases e
      | some s =>
        rw [hh] at e
        have e' : s = some A := e
        rw [e'] at hh
        rw [imN_up, (hb.to A []).2 hh]; rfl
    · intro e
      obtain ⟨B, T, d, h1, h2, h3⟩ := im_shape A [] e
      have hT : T = [] := (List.append_eq_nil_iff.1 h3.symm).1
      have hd : d = [] := (List.append_eq_nil_iff.1 h3.symm).2
      rw [hd, List.append_nil] at h2
      rw [imN_nil, (hb.to A []).1 (by rw [h2, h1, hT])]; rfl
  · intro Y n ih hpx A
    have ih' := ih (hp Y n hpx)
    constructor
    · intro e
      rw [imN_snoc] at e
      cases hh : b (Y ++ [n]) with
      | some s =>
        rw [hh] at e
        have e' : s = some A := e
        rw [e'] at hh
        rw [imN_up, (hb.to A _).2 hh]; rfl
      | none =>
        rw [hh, Option.getD_none] at e
        cases hi : imN b Y with
        | none => rw [hi] at e; cases e
        | some A' =>
          rw [hi] at e
          have eA : A = A' ++ [n] := (Option.some.inj e).symm
          have hiA := (ih' A').1 hi
          have hup : upI h A = some (Y ++ [n]) := by rw [eA, upI_snoc, hiA]; rfl
          rw [imN_up]
          cases hA : h A with
          | none => exact hup
          | some s =>
            show s = _
            cases s with
            | none => exact absurd ((hb.dr (Y ++ [n])).2 ⟨A, hA, hup, hpx⟩) (by rw [hh]; simp)
            | some T => rw [ha.own hA hup]
    · intro e
      rw [imN_snoc]
      cases hA : h A with
      | some s =>
        have e' : s = some (Y ++ [n]) := by rw [imN_up, hA] at e; exact e
        rw [e'] at hA
        rw [(hb.to A _).1 hA]; rfl
      | none =>
        have hup : upI h A = some (Y ++ [n]) := by rw [imN_up, hA] at e; exact e
        rcases snoc_cases A with rfl | ⟨A', m, rfl⟩
        · cases hup
        · rw [upI_snoc] at hup
          cases hi : imN h A' with
          | none => rw [hi] at hup; cases hup
          | some Z =>
            rw [hi] at hup
            have hz : Z ++ [m] = Y ++ [n] := Option.some.inj hup
            obtain ⟨rfl, hmn⟩ := List.append_inj' hz rfl
            cases hmn
            rw [(ih' A').2 hi]
            cases hbx : b (Z ++ [n]) with
            | none => rfl
            | some s =>
              exfalso
              cases s with
              | some A2 =>
                have h2 := (hb.to A2 _).2 hbx
                have e2 : imN h A2 = some (Z ++ [n]) := by rw [imN_up, h2]; rfl
                have := ha.inj0 e e2
                rw [this, h2] at hA
                cases hA
              | none =>
                obtain ⟨A3, h3, u3, _⟩ := (hb.dr _).1 hbx
                rcases snoc_cases A3 with rfl | ⟨A4, k, rfl⟩
                · cases u3
                · rw [upI_snoc] at u3
                  cases hi4 : imN h A4 with
                  | none => rw [hi4] at u3; cases u3
                  | some Z4 =>
                    rw [hi4] at u3
                    obtain ⟨rfl, hkm⟩ := List.append_inj' (Option.some.inj u3) rfl
                    cases hkm
                    rw [ha.inj0 hi4 hi, hA] at h3
                    cases h3
/-- back, and back again, where nothing is left out -/
theorem BackH.twice {h b v c : Ht α} {p q : List α → Prop} (hb : BackH h p b) (ha : AgH h) (hv : ∀ X, v X = foH b X) (hc : BackH v q c) (hp : ∀ A Y, h A = some none → upI h A = some Y → p Y) (hq : ∀ A s, h A = some s → q A) (A : List α) : imN c A = imN h A := by
  have hv' : v = foH b := funext hv
  subst hv'
  have hb1 : BackH h (fun _ => True) b := ⟨hb.to, fun Y => ⟨fun e => by obtain ⟨A, h1, h2, _⟩ := (hb.dr Y).1 e; exact ⟨A, h1, h2, trivial⟩, fun ⟨A, h1, h2, _⟩ => (hb.dr Y).2 ⟨A, h1, h2, hp A Y h1 h2⟩⟩⟩
  have hab := hb.agr ha
  have him : ∀ X A, imN (foH b) X = some A ↔ imN h A = some X := fun X A => by rw [fo_im hab]; exact hb1.im ha (fun _ _ _ => trivial) X trivial A
  have hc1 : BackH (foH b) (fun _ => True) c := ⟨hc.to, fun Y => ⟨fun e => by obtain ⟨A, h1, h2, _⟩ := (hc.dr Y).1 e; exact ⟨A, h1, h2, trivial⟩, fun ⟨Z, h1, h2, _⟩ => (hc.dr Y).2 ⟨Z, h1, h2, by
    have hbz : b Z = some none := by
      unfold foH at h1
      cases hh : b Z with
      | none => rw [hh] at h1; cases h1
      | some s' =>
        rw [hh] at h1
        simp only at h1
        by_cases k : s'.isSome = (upI b Z).isSome
        · rw [if_pos k] at h1; cases h1
        · rw [if_neg k] at h1; exact h1
    obtain ⟨A3, h3, u3, _⟩ := (hb.dr Z).1 hbz
    refine hq Y none ?_
    rcases snoc_cases A3 with rfl | ⟨A4, k, rfl⟩
    · cases u3
    · rw [upI_snoc] at u3
      cases hi4 : imN h A4 with
      | none => rw [hi4] at u3; cases u3
      | some Z4 =>
        rw [hi4] at u3
        have ez : Z = Z4 ++ [k] := (Option.some.inj u3).symm
        rw [ez, upI_snoc, (him Z4 A4).2 hi4] at h2
        have : Y = A4 ++ [k] := (Option.some.inj h2).symm
        rw [this]
        exact h3⟩⟩⟩
  have h2 := fun X => hc1.im (fo_agr hab) (fun _ _ _ => trivial) A trivial X
  cases e : imN h A with
  | some X => exact (h2 X).2 ((him X A).2 e)
  | none =>
    cases e2 : imN c A with
    | none => rfl
    | some X => rw [(him X A).1 ((h2 X).1 e2)] at e; cases e
/-! one table behind another -/
def thnI (h k : Ht α) (A : List α) : Option (List α) := (imN h A).bind (imN k)
/-- at the rows of the first one, and at those that go to rows of the second one, stands where both lead -/
structure ThenH (h k c : Ht α) : Prop where
  at_ : ∀ A s, c A = some s → s = thnI h k A
  fst : ∀ A, (h A).isSome = true → (c A).isSome = true
  snd : ∀ A X, imN h A = some X → (k X).isSome = true → (c A).isSome = true
theorem ThenH.im {h k c : Ht α} (hc : ThenH h k c) (A : List α) : imN c A = thnI h k A := by
  have yes : ∀ A, (c A).isSome = true → imN c A = thnI h k A := fun A e => by
    obtain ⟨s, hs⟩ := Option.isSome_iff_exists.1 e
    rw [imN_up, hs]
    exact hc.at_ A s hs
  refine snoc_ind (P := fun A => imN c A = thnI h k A) ?_ ?_ A
  · cases e : c [] with
    | some s => exact yes [] (by rw [e]; rfl)
    | none =>
      have hh : h [] = none := by
        cases e2 : h [] with
        | none => rfl
        | some s => have := hc.fst [] (by rw [e2]; rfl); rw [e] at this; cases this
      unfold thnI
      rw [imN_nil, imN_nil, e, hh]; rfl
  · intro A n ih
    cases e : c (A ++ [n]) with
    | some s => exact yes _ (by rw [e]; rfl)
    | none =>
      have hh : h (A ++ [n]) = none := by
        cases e2 : h (A ++ [n]) with
        | none => rfl
        | some s => have := hc.fst _ (by rw [e2]; rfl); rw [e] at this; cases this
      rw [imN_snoc, e, Option.getD_none, ih]
      unfold thnI
      rw [imN_snoc, hh, Option.getD_none]
      cases hi : imN h A with
      | none => rfl
      | some X =>
        have hk : k (X ++ [n]) = none := by
          cases e2 : k (X ++ [n]) with
          | none => rfl
          | some s =>
            have := hc.snd (A ++ [n]) (X ++ [n]) (by rw [imN_snoc, hh, hi]; rfl) (by rw [e2]; rfl)
            rw [e] at this; cases this
        show (imN k X).map _ = imN k (X ++ [n])
        rw [imN_snoc, hk]; rfl
theorem ThenH.agr {h k c : Ht α} (hc : ThenH h k c) (ha : AgH h) (hk : AgH k) : AgH c := fun A B T U d h1 h2 => by
  have e1 := hc.at_ A _ h1
  have e2 := hc.at_ B _ h2
  unfold thnI at e1 e2
  cases i1 : imN h A with
  | none => rw [i1] at e1; cases e1
  | some X =>
    cases i2 : imN h B with
    | none => rw [i2] at e2; cases e2
    | some Y =>
      rw [i1] at e1
      rw [i2] at e2
      rw [ha.inj i1 i2 d]
      exact hk.inj e1.symm e2.symm d
end
end Go.Proofs.YtggnglgehobglaaGreatDoor

/- Plain facts on bytes and on rows of cells that hold them; nothing of the program is named here. -/
namespace Go.Proofs.YtggnglgehobglaaGreatDoor
open Go.RowKit

/-- byte i of a list, as a number -/
def bt (l : List UInt8) (i : Nat) : Int := ((l.getD i 0).toNat : Int)
theorem bt_lo (l : List UInt8) (i : Nat) : 0 ≤ bt l i := by unfold bt; omega
theorem bt_hi (l : List UInt8) (i : Nat) : bt l i ≤ 255 := by
  unfold bt
  have := (l.getD i 0).toNat_lt
  omega
theorem bt_cons (c : UInt8) (l : List UInt8) (i : Nat) : bt (c :: l) (i + 1) = bt l i := by simp [bt]
theorem bt_drop (l : List UInt8) (k i : Nat) : bt (l.drop k) i = bt l (k + i) := by simp [bt, List.getD]
theorem bt_take (l : List UInt8) (k i : Nat) (h : i < k) : bt (l.take k) i = bt l i := by simp [bt, List.getD, h]

/-- a slice value of n bytes that leads to the list l -/
def Bytes (w : World) (a : Option Addr) (n : Nat) (l : List UInt8) : Prop :=
  l.length = n ∧ (0 < n → ∃ b off, a = some ⟨b, off, none⟩ ∧ ∀ i, i < n → w.cell? ⟨b, off + i, none⟩ = some (.int .u8 (bt l i)))

theorem Bytes.take {w : World} {a : Option Addr} {n : Nat} {l : List UInt8} (h : Bytes w a n l) (k : Nat) (hk : k ≤ n) : Bytes w a k (l.take k) := by
  refine ⟨by have := h.1; simp; omega, fun hp => ?_⟩
  obtain ⟨b, off, rfl, hc⟩ := h.2 (by omega)
  exact ⟨b, off, rfl, fun i hi => by rw [bt_take _ _ _ hi]; exact hc i (by omega)⟩

/-- the cells of a list of bytes -/
def cellsOf (l : List UInt8) : List Value := l.map fun c => Value.int .u8 (c.toNat : Int)
theorem cellsOf_length (l : List UInt8) : (cellsOf l).length = l.length := by simp [cellsOf]
theorem cellsOf_get (l : List UInt8) (i : Nat) (h : i < l.length) : (cellsOf l)[i]? = some (.int .u8 (bt l i)) := by
  simp [cellsOf, bt, h]
theorem cellsOf_one (l : List UInt8) : ∀ u ∈ cellsOf l, u.oneCell' = true := by
  intro u hu
  obtain ⟨_, _, rfl⟩ := List.mem_map.1 hu
  rfl
theorem cellsOf_append (l m : List UInt8) : cellsOf (l ++ m) = cellsOf l ++ cellsOf m := by simp [cellsOf]

end Go.Proofs.YtggnglgehobglaaGreatDoor
