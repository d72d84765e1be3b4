import Derived.Test.YtdjodigimhgklaaGreatDoorMD35
import Derived.Test.YtdjodigimhgklaaGreatDoorMD34
import Derived.Test.YtdjodigimhgklaaGreatDoorMD31
/- Plain: a memo's disk that may be cut, with torn ends: what stands of it. -/
namespace Go.Proofs.YtdjodigimhgklaaGreatDoor
open Go.RowKit Go.Shelf Go.Maps

/-! ### a record says what was written -/
theorem yuR_at (x : Nat) (hx : x < 18446744073709551616) (A : List UInt8) (p : Nat) (hp : p = A.length) (B : List UInt8) : yuR (A ++ (short x ++ B)) p 0 = (x, p + (short x).length, 0) := by
  unfold yuR
  rw [if_neg (by decide), hp, List.drop_left, num_short_app x hx B]
  simp
theorem decL_enc : ∀ (l : List Nat) (A : List UInt8) (acc : List Nat) (p : Nat), p = A.length → (∀ x ∈ l, x ≠ 0 ∧ x ≤ 2147483648) → (acc ++ l).Nodup → decL (A ++ numsB l) l.length acc p 0 = some (acc ++ l, (A ++ numsB l).length, 0)
  | [], A, acc, p, hp, _, _ => by simp [decL, numsB, hp]
  | x :: r, A, acc, p, hp, hx, hd => by
    have h1 := hx x (List.mem_cons_self ..)
    have hy := yuR_at x (by omega) A p hp (numsB r)
    have e : A ++ numsB (x :: r) = (A ++ short x) ++ numsB r := by simp [numsB]
    have e2 : A ++ numsB (x :: r) = A ++ (short x ++ numsB r) := by simp [numsB]
    have hn : x ∉ acc := fun h => by
      have := (List.nodup_append.1 hd).2.2 x h x (List.mem_cons_self ..)
      exact this rfl
    rw [List.length_cons, decL, e2, hy]
    simp only
    rw [if_neg (by rintro (h | h | h); exact h1.1 h; omega; exact hn h), ← e2, e]
    have := decL_enc r (A ++ short x) (acc ++ [x]) (p + (short x).length) (by rw [List.length_append, hp]) (fun y hy => hx y (List.mem_cons_of_mem _ hy)) (by simpa using hd)
    rw [this]
    simp
theorem decR_encR (l : List Nat) (h4 : l.length ≤ 4) (hx : ∀ x ∈ l, x ≠ 0 ∧ x ≤ 2147483648) (hd : l.Nodup) : decR (encR l) = (l, true) := by
  have hy := yuR_at l.length (by omega) [] 0 rfl (numsB l)
  rw [List.nil_append] at hy
  unfold decR encR
  rw [hy]
  simp only
  rw [if_neg (by omega), decL_enc l (short l.length) [] _ (by simp) hx (by simpa using hd)]
  simp
/-! ### the pairs of runs -/
theorem newsR_conv (ps : List Pr) : ∀ (d acc out : List Pr), newsR ps acc d = some out → ∀ p ∈ d, lookP ps p.1 = none ∨ lookP ps p.1 = some p.2
  | [], _, _, _, p, hp => by cases hp
  | q :: r, acc, out, h, p, hp => by
    simp only [newsR] at h
    unfold newsS at h
    cases e : lookP ps q.1 with
    | none =>
      rw [e] at h
      rcases List.mem_cons.1 hp with rfl | hp
      · exact .inl e
      · exact newsR_conv ps r _ _ h p hp
    | some y =>
      rw [e] at h
      simp only at h
      split at h
      · rename_i hy
        rcases List.mem_cons.1 hp with rfl | hp
        · exact .inr (by rw [e, hy])
        · exact newsR_conv ps r _ _ h p hp
      · cases h
theorem rrL_congr {key : Nat} {S S' : DG} : ∀ (l : List Nat) (ps : List Pr), (∀ x ∈ l, S'.bs (nmB key x) = S.bs (nmB key x)) → rrL key S' l ps = rrL key S l ps
  | [], _, _ => rfl
  | x :: r, ps, h => by
    simp only [rrL]
    rw [h x (List.mem_cons_self ..)]
    cases pairsR (S.bs (nmB key x)) with
    | none => rfl
    | some l =>
      simp only
      cases newsR ps [] l with
      | none => rfl
      | some out =>
        simp only
        rw [rrL_congr r _ fun y hy => h y (List.mem_cons_of_mem _ hy)]
/-- one run's pairs: all new, and what is known then -/
theorem rrL_step {key : Nat} {S : DG} {x : Nat} {r : List Nat} {ps P : List Pr} (h : rrL key S (x :: r) ps = some P) : ∃ m, pairsR (S.bs (nmB key x)) = some m ∧ GoodV m ∧ (∀ p ∈ m, lookP ps p.1 = none) ∧ rrL key S r (mergeM ps m) = some P := by
  simp only [rrL] at h
  split at h
  · cases h
  · rename_i m hm
    split at h
    · cases h
    · rename_i out ho
      split at h
      · rename_i hl
        obtain ⟨f, hf, hs, hn⟩ := newsR_facts ps m [] out ho
        rw [List.nil_append] at hf
        subst hf
        obtain rfl := hs.eq_of_length hl
        exact ⟨out, hm, (pairs_good hm).1, hn, h⟩
      · cases h
theorem GoodV.rs {l : List Pr} (h : GoodV l) : Ris l := ((risF_iff l 0).1 h.ris).1
theorem GoodV.p0 {l : List Pr} (h : GoodV l) : ∀ p ∈ l, p.1 ≠ 0 := fun p hp => by have := ((risF_iff l 0).1 h.ris).2 p hp; omega
theorem rrL_make {key : Nat} {S : DG} {x : Nat} {r : List Nat} {ps m : List Pr} (hm : pairsR (S.bs (nmB key x)) = some m) (hn : ∀ p ∈ m, lookP ps p.1 = none) : rrL key S (x :: r) ps = rrL key S r (mergeM ps m) := by
  have := newsR_fits ps m [] fun p hp => .inl (hn p hp)
  rw [List.nil_append, List.filter_eq_self.2 fun p hp => by rw [hn p hp]; rfl] at this
  simp only [rrL, hm, this, if_true]
theorem rrL_keeps {key : Nat} {S : DG} : ∀ (l : List Nat) (ps P : List Pr), rrL key S l ps = some P → Ris ps → Ris P ∧ ∀ x y, lookP ps x = some y → lookP P x = some y
  | [], ps, P, h, hr => by cases h; exact ⟨hr, fun _ _ h => h⟩
  | x :: r, ps, P, h, hr => by
    obtain ⟨m, _, hg, hn, h'⟩ := rrL_step h
    obtain ⟨h1, h2⟩ := rrL_keeps r _ _ h' (mergeM_ris ps m hr hg.rs hn)
    exact ⟨h1, fun a b hab => h2 a b (by rw [mergeM_look hr hg.rs hn, hab]; rfl)⟩
theorem rrL_ok {key : Nat} {S : DG} : ∀ (l : List Nat) (ps P : List Pr), rrL key S l ps = some P → (PrOk ps ∧ ∀ p ∈ ps, p.1 ≠ 0) → PrOk P ∧ ∀ p ∈ P, p.1 ≠ 0
  | [], ps, P, h, hr => by cases h; exact hr
  | x :: r, ps, P, h, hr => by
    obtain ⟨m, _, hg, hn, h'⟩ := rrL_step h
    exact rrL_ok r _ _ h' ⟨mergeM_ok hr.1 hg.ok, fun p hp => ((mergeM_mem ps m p).1 hp).elim (hr.2 p) (hg.p0 p)⟩
/-- more pairs ahead: more pairs behind -/
theorem rrL_more {key : Nat} {S : DG} {nw : List Pr} : ∀ (l : List Nat) (ps ps' P : List Pr), rrL key S l ps = some P → Ris ps → Ris ps' → (∀ x, lookP ps' x = (lookP ps x).or (lookP nw x)) → (∀ x, lookP nw x ≠ none → lookP P x = none) →
    ∃ P', rrL key S l ps' = some P' ∧ Ris P' ∧ ∀ x, lookP P' x = (lookP P x).or (lookP nw x)
  | [], ps, ps', P, h, _, hr', hl, _ => by cases h; exact ⟨ps', rfl, hr', hl⟩
  | x :: r, ps, ps', P, h, hr, hr', hl, hd => by
    obtain ⟨m, hm, hg, hn, h'⟩ := rrL_step h
    have hk := (rrL_keeps r _ _ h' (mergeM_ris ps m hr hg.rs hn)).2
    have hn' : ∀ p ∈ m, lookP ps' p.1 = none := fun p hp => by
      rw [hl, hn p hp, Option.none_or]
      cases e : lookP nw p.1 with
      | none => rfl
      | some y =>
        have h1 := hd p.1 (by rw [e]; simp)
        have h2 := hk p.1 p.2 (by rw [mergeM_look hr hg.rs hn, hn p hp, Option.none_or]; exact ris_mem_look hg.rs hp)
        rw [h1] at h2
        cases h2
    rw [rrL_make hm hn']
    refine rrL_more r (mergeM ps m) (mergeM ps' m) P h' (mergeM_ris ps m hr hg.rs hn) (mergeM_ris ps' m hr' hg.rs hn') (fun z => ?_) hd
    rw [mergeM_look hr hg.rs hn, mergeM_look hr' hg.rs hn', hl]
    cases e1 : lookP ps z with
    | some y => rfl
    | none =>
      rw [Option.none_or, Option.none_or]
      cases e2 : lookP nw z with
      | none => rw [Option.none_or, Option.or_none]
      | some y =>
        cases e3 : lookP m z with
        | none => rfl
        | some y3 =>
          have h1 := hd z (by rw [e2]; simp)
          have h2 := hk z y3 (by rw [mergeM_look hr hg.rs hn, e1, Option.none_or]; exact e3)
          rw [h1] at h2
          cases h2
/-! ### a disk that may be cut -/
theorem done_cut (S : DG) : S.done.cut = S.cut := rfl
theorem pieces_cut2 : ∀ (k : Nat) (S : DG) (nm l : List UInt8), l.length + 1 ≤ k → l ≠ [] →
    (((pieces k S nm l).2 = 0 ∧ (pieces k S nm l).1.bs nm = S.bs nm ++ l ∧ (pieces k S nm l).1.f nm ≠ none) ∨ ((pieces k S nm l).2 = 6 ∧ S.cut = true ∧ ∃ t, t < l.length ∧ (pieces k S nm l).1.bs nm = S.bs nm ++ l.take t)) ∧
      (pieces k S nm l).1.cut = S.cut ∧ (pieces k S nm l).1.n ≤ (if (S.f nm).isSome then S.n else S.n + 1) ∧ (pieces k S nm l).1.wr ≤ S.wr + l.length ∧ (∀ x, x ≠ nm → (pieces k S nm l).1.f x = S.f x) := by
  intro k
  induction k with
  | zero => intro S nm l h; omega
  | succ k ih =>
    intro S nm l hk hl
    have hpos : 0 < l.length := List.length_pos_iff.2 hl
    have hadd : ∀ bs, (S.done.add nm bs).bs nm = S.bs nm ++ bs ∧ (S.done.add nm bs).n = (if (S.f nm).isSome then S.n else S.n + 1) ∧ (S.done.add nm bs).f nm ≠ none ∧ (S.done.add nm bs).wr = S.wr + 1 ∧ (S.done.add nm bs).cut = S.cut ∧ (∀ x, x ≠ nm → (S.done.add nm bs).f x = S.f x) := by
      intro bs
      refine ⟨?_, rfl, ?_, rfl, rfl, fun x hx => ?_⟩
      · show ((if nm = nm then some _ else _) : Option (List UInt8)).getD [] = _
        rw [if_pos rfl]; rfl
      · show (if nm = nm then some _ else _) ≠ none
        rw [if_pos rfl]; simp
      · show (if x = nm then some _ else S.f x) = S.f x
        rw [if_neg hx]
    rw [pieces]
    by_cases hc : S.can = true
    · rw [if_pos hc]
      by_cases h32 : l.length ≤ 32
      · rw [if_pos h32]
        obtain ⟨h1, h2, h3, h4, h6, h5⟩ := hadd l
        exact ⟨.inl ⟨rfl, h1, h3⟩, h6, Nat.le_of_eq h2, by rw [h4]; omega, h5⟩
      · rw [if_neg h32]
        obtain ⟨h1, h2, h3, h4, h6, h5⟩ := hadd (l.take 32)
        have hne : l.drop 32 ≠ [] := fun e => by have := congrArg List.length e; rw [List.length_drop] at this; simp at this; omega
        obtain ⟨hcase, g0, g1, g3, g4⟩ := ih (S.done.add nm (l.take 32)) nm (l.drop 32) (by rw [List.length_drop]; omega) hne
        refine ⟨?_, by rw [g0, h6], ?_, ?_, fun x hx => (g4 x hx).trans (h5 x hx)⟩
        · rcases hcase with ⟨e, hb, hs⟩ | ⟨e, hcu, t, ht, hb⟩
          · exact .inl ⟨e, by rw [hb, h1, List.append_assoc, List.take_append_drop], hs⟩
          · refine .inr ⟨e, by rw [← h6]; exact hcu, 32 + t, by rw [List.length_drop] at ht; omega, ?_⟩
            rw [hb, h1, List.append_assoc, ← List.take_add]
        · cases hs : (S.done.add nm (l.take 32)).f nm with
          | none => exact absurd hs h3
          | some _ => rw [hs] at g1; rw [h2] at g1; simpa using g1
        · rw [h4, List.length_drop] at g3; omega
    · rw [if_neg hc]
      have hcut : S.cut = true := by
        cases e : S.cut with
        | true => rfl
        | false => exact absurd (by unfold DG.can; rw [e]; rfl) hc
      exact ⟨.inr ⟨rfl, hcut, 0, hpos, by simp⟩, rfl, by show S.n ≤ _; split <;> omega, by show S.wr ≤ _; omega, fun _ _ => rfl⟩
theorem app_cut {S : DG} {nm l : List UInt8} (hnm : nameB nm = true) (hl : l ≠ []) (hfit : l.length + (S.bs nm).length ≤ 4194304) (hn : S.n < 256) :
    (((S.app nm l).2 = 0 ∧ (S.app nm l).1.bs nm = S.bs nm ++ l ∧ (S.app nm l).1.f nm ≠ none) ∨ ((S.app nm l).2 = 6 ∧ S.cut = true ∧ ∃ t, t < l.length ∧ (S.app nm l).1.bs nm = S.bs nm ++ l.take t)) ∧
      (S.app nm l).1.cut = S.cut ∧ (S.app nm l).1.n ≤ S.n + 1 ∧ (S.app nm l).1.wr ≤ S.wr + l.length ∧ (∀ x, x ≠ nm → (S.app nm l).1.f x = S.f x) := by
  have e : S.app nm l = pieces (l.length + 1) S nm l := by
    unfold DG.app
    rw [if_neg (by rw [hnm]; decide), if_neg (by
      rintro (e | ⟨_, e2⟩)
      · omega
      · omega), if_neg (by rintro ⟨_, e⟩; exact hl e)]
  rw [e]
  obtain ⟨h1, h2, h3, h4, h5⟩ := pieces_cut2 (l.length + 1) S nm l (Nat.le_refl _) hl
  exact ⟨h1, h2, by refine Nat.le_trans h3 ?_; split <;> omega, h4, h5⟩
theorem remS_cut (key : Nat) : ∀ (l : List Nat) (S : DG), l.Nodup → (∀ x ∈ l, x < 100 ∧ (S.f (nmB key x)).isSome = true) →
    (((remS key S l).2 = 0 ∧ ∀ x ∈ l, (remS key S l).1.f (nmB key x) = none) ∨ ((remS key S l).2 = 6 ∧ S.cut = true)) ∧ (remS key S l).1.cut = S.cut ∧ (remS key S l).1.n ≤ S.n ∧ (remS key S l).1.wr ≤ S.wr + l.length ∧
      ∀ y, (remS key S l).1.f y = S.f y ∨ ((remS key S l).1.f y = none ∧ ∃ x ∈ l, y = nmB key x)
  | [], S, _, _ => ⟨.inl ⟨rfl, fun x hx => by cases hx⟩, rfl, Nat.le_refl _, Nat.le_refl _, fun y => .inl rfl⟩
  | n :: r, S, hd, hl => by
    have hn := hl n (List.mem_cons_self ..)
    have hd' := List.nodup_cons.1 hd
    have hne : ¬ S.f (nmB key n) = none := fun e => by rw [e] at hn; cases hn.2
    by_cases hc : S.can = true
    · have hr : S.remove (nmB key n) = (S.done.rem (nmB key n), 0) := by
        unfold DG.remove
        rw [if_neg hne, if_pos hc]
      have hdn : S.done.n = S.n := rfl
      have hnn : (S.done.rem (nmB key n)).n ≤ S.n := by
        show (if (S.done.f (nmB key n)).isSome then S.done.n - 1 else S.done.n) ≤ S.n
        rw [hdn]; split <;> omega
      have hother : ∀ x ∈ r, nmB key x ≠ nmB key n := fun x hx e => hd'.1 ((nmB_num (hl x (List.mem_cons_of_mem _ hx)).1 hn.1 e) ▸ hx)
      obtain ⟨h1, h2, h3, h4, h5⟩ := remS_cut key r (S.done.rem (nmB key n)) hd'.2 (fun x hx => by
        have hx' := hl x (List.mem_cons_of_mem _ hx)
        refine ⟨hx'.1, ?_⟩
        rw [rem_f, if_neg (hother x hx)]
        exact hx'.2)
      unfold remS
      rw [hr, if_pos rfl]
      have hn0 : (remS key (S.done.rem (nmB key n)) r).1.f (nmB key n) = none := by
        rcases h5 (nmB key n) with e | ⟨e, _⟩
        · rw [e, rem_f, if_pos rfl]
        · exact e
      refine ⟨?_, h2, Nat.le_trans h3 hnn, ?_, fun y => ?_⟩
      · rcases h1 with ⟨e, h1⟩ | ⟨e, h1⟩
        · refine .inl ⟨e, fun x hx => ?_⟩
          rcases List.mem_cons.1 hx with rfl | hx
          · exact hn0
          · exact h1 x hx
        · exact .inr ⟨e, h1⟩
      · have : (S.done.rem (nmB key n)).wr = S.wr + 1 := rfl
        rw [this] at h4
        show (remS key (S.done.rem (nmB key n)) r).1.wr ≤ _
        rw [List.length_cons]; omega
      · rcases h5 y with e | ⟨e, x, hx, hy⟩
        · rw [rem_f] at e
          split at e
          · rename_i hy
            exact .inr ⟨e, n, List.mem_cons_self .., hy⟩
          · exact .inl e
        · exact .inr ⟨e, x, List.mem_cons_of_mem _ hx, hy⟩
    · have hr : S.remove (nmB key n) = (S, 6) := by
        unfold DG.remove
        rw [if_neg hne, if_neg hc]
      have hcut : S.cut = true := by
        cases e : S.cut with
        | true => rfl
        | false => exact absurd (by unfold DG.can; rw [e]; rfl) hc
      unfold remS
      rw [hr, if_neg (by show ¬ (6 : Int) = 0; decide)]
      exact ⟨.inr ⟨rfl, hcut⟩, rfl, Nat.le_refl _, by show S.wr ≤ _; omega, fun y => .inl rfl⟩
end Go.Proofs.YtdjodigimhgklaaGreatDoor

/- Plain: a memo's disk that may be cut, with torn ends: what Open and Add leave of it. -/
namespace Go.Proofs.YtdjodigimhgklaaGreatDoor
open Go.RowKit Go.Shelf Go.Maps

/-- a disk on which a memo of that key lies: its records, and perhaps a beginning of one more; the runs that count, and perhaps others; clean: neither is there -/
structure CDisk (key : Nat) (S : DG) (rs : List (List UInt8)) (runs : List Nat) (top : Nat) (P : List Pr) (c : Bool) (k : Nat) : Prop where
  jb : ∃ t p, S.bs (nmB key 0) = fileB rs ++ (recB p).take t ∧ t < (recB p).length ∧ p.length ≤ 262144 ∧ (c = true → t = 0)
  all : ∀ r ∈ rs, r.length ≤ 262144
  rcs : recF ([], 0, true) rs = (runs, top, true)
  rl : runs.length ≤ 4
  nd : runs.Nodup
  rg : ∀ x ∈ runs, 0 < x ∧ x ≤ top
  tp : top ≤ k
  rr : rrL key S runs [] = some P
  only : ∀ y, (S.f y).isSome = true → ∃ x, x ≤ top + 1 ∧ y = nmB key x
  fresh : c = true → ∀ x, 0 < x → x < 100 → x ∉ runs → S.f (nmB key x) = none
  n : S.n ≤ 2 * k
  wr : S.wr ≤ k * 100000
  jsz : (S.bs (nmB key 0)).length ≤ k * 200
  len : P.length ≤ k * 40

theorem cdisk_new (key : Nat) : CDisk key emD [] [] 0 [] true 0 where
  jb := ⟨0, [], rfl, by have := (recB_pos []).1; omega, by simp, fun _ => rfl⟩
  all := fun r h => by cases h
  rcs := rfl
  rl := Nat.zero_le _
  nd := List.nodup_nil
  rg := fun x h => by cases h
  tp := Nat.le_refl _
  rr := rfl
  only := fun y h => by cases h
  fresh := fun _ _ _ _ _ => rfl
  n := Nat.le_refl _
  wr := Nat.le_refl _
  jsz := Nat.le_refl _
  len := Nat.le_refl _
theorem CDisk.parse {key : Nat} {S : DG} {rs : List (List UInt8)} {runs : List Nat} {top : Nat} {P : List Pr} {c : Bool} {k : Nat} (h : CDisk key S rs runs top P c k) : parseL (S.bs (nmB key 0)) = (rs, (fileB rs).length, false) := by
  obtain ⟨t, p, e, h1, h2, _⟩ := h.jb
  rw [e]; exact parseL_torn rs p t h.all h2 h1
theorem CDisk.recO {key : Nat} {S : DG} {rs : List (List UInt8)} {runs : List Nat} {top : Nat} {P : List Pr} {c : Bool} {k : Nat} (h : CDisk key S rs runs top P c k) : recO key S = (runs, top, true) := by
  show recF ([], 0, true) (parseL (S.bs (nmB key 0))).1 = _
  rw [h.parse]; exact h.rcs
theorem CDisk.good {key : Nat} {S : DG} {rs : List (List UInt8)} {runs : List Nat} {top : Nat} {P : List Pr} {c : Bool} {k : Nat} (h : CDisk key S rs runs top P c k) : Ris P ∧ PrOk P ∧ ∀ p ∈ P, p.1 ≠ 0 :=
  ⟨(rrL_keeps _ _ _ h.rr List.Pairwise.nil).1, (rrL_ok _ _ _ h.rr ⟨(fun p hp => by cases hp), (fun p hp => by cases hp)⟩).1, (rrL_ok _ _ _ h.rr ⟨(fun p hp => by cases hp), (fun p hp => by cases hp)⟩).2⟩
/-- a run that counts is there -/
theorem CDisk.there {key : Nat} {S : DG} {rs : List (List UInt8)} {runs : List Nat} {top : Nat} {P : List Pr} {c : Bool} {k : Nat} (h : CDisk key S rs runs top P c k) : ∀ x ∈ runs, (S.f (nmB key x)).isSome = true := by
  have key2 : ∀ (l : List Nat) (ps : List Pr), rrL key S l ps = some P → ∀ x ∈ l, (S.f (nmB key x)).isSome = true := by
    intro l
    induction l with
    | nil => intro ps _ x hx; cases hx
    | cons y r ih =>
      intro ps hr x hx
      obtain ⟨m, hm, _, _, h'⟩ := rrL_step hr
      rcases List.mem_cons.1 hx with rfl | hx
      · cases e : S.f (nmB key x) with
        | some _ => rfl
        | none =>
          have : S.bs (nmB key x) = [] := by unfold DG.bs; rw [e]; rfl
          rw [this] at hm
          have := (pairs_good hm).2
          exact absurd this.symm (run_ne _)
      · exact ih _ h' x hx
  exact key2 runs [] h.rr
theorem CDisk.small {key : Nat} {S : DG} {rs : List (List UInt8)} {runs : List Nat} {top : Nat} {P : List Pr} {c : Bool} {k : Nat} (h : CDisk key S rs runs top P c k) : ∀ x ∈ runs, (S.bs (nmB key x)).length ≤ 4194304 := by
  have key2 : ∀ (l : List Nat) (ps : List Pr), rrL key S l ps = some P → ∀ x ∈ l, (S.bs (nmB key x)).length ≤ 4194304 := by
    intro l
    induction l with
    | nil => intro ps _ x hx; cases hx
    | cons y r ih =>
      intro ps hr x hx
      obtain ⟨m, hm, hg, _, h'⟩ := rrL_step hr
      rcases List.mem_cons.1 hx with rfl | hx
      · rw [(pairs_good hm).2, runB_len]
        have := short_len m.length
        have := hg.len
        omega
      · exact ih _ h' x hx
  exact key2 runs [] h.rr
theorem CDisk.more {key : Nat} {S : DG} {rs : List (List UInt8)} {runs : List Nat} {top : Nat} {P : List Pr} {c : Bool} {k k' : Nat} (h : CDisk key S rs runs top P c k) (hk : k ≤ k') : CDisk key S rs runs top P c k' :=
  { h with tp := Nat.le_trans h.tp hk, n := Nat.le_trans h.n (by omega), wr := Nat.le_trans h.wr (Nat.mul_le_mul_right _ hk), jsz := Nat.le_trans h.jsz (Nat.mul_le_mul_right _ hk), len := Nat.le_trans h.len (Nat.mul_le_mul_right _ hk) }
theorem CDisk.dirty {key : Nat} {S : DG} {rs : List (List UInt8)} {runs : List Nat} {top : Nat} {P : List Pr} {c : Bool} {k : Nat} (h : CDisk key S rs runs top P c k) : CDisk key S rs runs top P false k :=
  { h with
    jb := by obtain ⟨t, p, h1, h2, h3, _⟩ := h.jb; exact ⟨t, p, h1, h2, h3, fun e => by cases e⟩
    fresh := fun e => by cases e
  }
/-- the disk cut, or mended -/
theorem CDisk.same {key : Nat} {S S' : DG} {rs : List (List UInt8)} {runs : List Nat} {top : Nat} {P : List Pr} {c : Bool} {k : Nat} (h : CDisk key S rs runs top P c k) (hf : S'.f = S.f) (hn : S'.n = S.n) (hw : S'.wr = S.wr) : CDisk key S' rs runs top P c k := by
  have hb : ∀ x, S'.bs x = S.bs x := fun x => by unfold DG.bs; rw [hf]
  exact { h with jb := by rw [hb]; exact h.jb, rr := by rw [rrL_congr runs [] fun x _ => hb _]; exact h.rr, only := by rw [hf]; exact h.only, fresh := by rw [hf]; exact h.fresh, n := by rw [hn]; exact h.n, wr := by rw [hw]; exact h.wr, jsz := by rw [hb]; exact h.jsz }
theorem nm_apart {key x y : Nat} (hx : x < 100) (hy : y < 100) (h : x ≠ y) : nmB key x ≠ nmB key y := fun e => h (nmB_num hx hy e)

/-- what the journal's Open leaves -/
theorem CDisk.opens {key : Nat} {S : DG} {rs : List (List UInt8)} {runs : List Nat} {top : Nat} {P : List Pr} {c : Bool} {k : Nat} (h : CDisk key S rs runs top P c k) (hk : k < 60) :
    (S.opened (nmB key 0)).1.cut = S.cut ∧ ((c = true ∧ S.opened (nmB key 0) = (S, 0)) ∨ ((S.opened (nmB key 0)).2 = 6 ∧ S.cut = true ∧ (S.opened (nmB key 0)).1 = S) ∨
      ((S.opened (nmB key 0)).2 = 0 ∧ CDisk key (opS key S) rs runs top P false (k + 1) ∧ (opS key S).bs (nmB key 0) = fileB rs ∧ (rs = [] → (opS key S).bs (nmB key 0) = []))) := by
  have hp := h.parse
  obtain ⟨t, p, e, h1, h2, h3⟩ := h.jb
  have hlen : (S.bs (nmB key 0)).length = (fileB rs).length + t := by rw [e, List.length_append, List.length_take]; omega
  unfold opS DG.opened
  rw [hp]
  simp only [Bool.false_eq_true, if_false]
  by_cases ht : t = 0
  · rw [if_neg (by omega)]
    refine ⟨rfl, ?_⟩
    cases c with
    | true => exact .inl ⟨rfl, rfl⟩
    | false =>
      have hb : S.bs (nmB key 0) = fileB rs := by rw [e, ht]; simp
      exact .inr (.inr ⟨rfl, h.more (Nat.le_succ k), hb, fun e0 => by rw [hb, e0]; rfl⟩)
  · have hc : c = false := by cases c with
      | false => rfl
      | true => exact absurd (h3 rfl) ht
    subst hc
    rw [if_pos (by omega)]
    have hsome : S.f (nmB key 0) ≠ none := fun e0 => by
      have : S.bs (nmB key 0) = [] := by unfold DG.bs; rw [e0]; rfl
      rw [this] at hlen
      simp at hlen
      omega
    unfold DG.trunc
    rw [if_neg hsome, if_neg (by omega), if_neg (by omega)]
    by_cases hcan : S.can = true
    · rw [if_pos hcan]
      have hset : ∀ x, (S.done.set (nmB key 0) ((S.bs (nmB key 0)).take ((fileB rs).length : Int).toNat)).f x = if x = nmB key 0 then some ((S.bs (nmB key 0)).take (fileB rs).length) else S.f x := fun x => rfl
      have hb0 : (S.done.set (nmB key 0) ((S.bs (nmB key 0)).take ((fileB rs).length : Int).toNat)).bs (nmB key 0) = fileB rs := by
        show ((S.done.set (nmB key 0) ((S.bs (nmB key 0)).take ((fileB rs).length : Int).toNat)).f (nmB key 0)).getD [] = _
        rw [hset, if_pos rfl, Option.getD_some]
        rw [e, List.take_left]
      refine ⟨rfl, .inr (.inr ⟨rfl, ?_, hb0, fun e0 => by rw [hb0, e0]; rfl⟩)⟩
      have htp := h.tp
      exact { h.more (Nat.le_succ k) with
        jb := ⟨0, [], by rw [hb0]; simp, by have := (recB_pos []).1; omega, by simp, fun _ => rfl⟩
        rr := by
          rw [rrL_congr runs [] fun x hx => ?_]
          · exact h.rr
          · have := h.rg x hx
            show ((S.done.set (nmB key 0) ((S.bs (nmB key 0)).take ((fileB rs).length : Int).toNat)).f (nmB key x)).getD [] = _
            rw [hset, if_neg (nm_apart (by omega) (by omega) (by omega))]
            rfl
        only := fun y hy => by
          rw [hset] at hy
          split at hy
          · rename_i e1; exact ⟨0, by omega, e1⟩
          · exact h.only y hy
        fresh := fun e => by cases e
        n := by
          show (if (S.done.f (nmB key 0)).isSome then S.done.n else S.done.n + 1) ≤ _
          have h1 : S.done.f (nmB key 0) = S.f (nmB key 0) := rfl
          have h2 : S.done.n = S.n := rfl
          have := h.n
          rw [h1, h2]
          split <;> omega
        wr := by
          show S.wr + 1 ≤ _
          have := h.wr
          omega
        jsz := by
          rw [hb0]
          have := h.jsz
          omega }
    · rw [if_neg hcan]
      have hcut : S.cut = true := by
        cases e : S.cut with
        | true => rfl
        | false => exact absurd (by unfold DG.can; rw [e]; rfl) hcan
      exact ⟨rfl, .inr (.inl ⟨rfl, hcut, rfl⟩)⟩
/-- the numbers of what does not count -/
theorem left_mem {key : Nat} (hkey : key < 18446744073709551616) {runs : List Nat} : ∀ (ns : List (List UInt8)), (∀ y ∈ ns, ∃ x, x < 100 ∧ y = nmB key x) → ∀ x, x ∈ leftL key runs ns ↔ 0 < x ∧ x ∉ runs ∧ x < 100 ∧ nmB key x ∈ ns
  | [], _, x => by simp [leftL]
  | y :: r, h, x => by
    obtain ⟨z, hz, rfl⟩ := h _ (List.mem_cons_self ..)
    have ih := left_mem hkey (runs := runs) r (fun y hy => h y (List.mem_cons_of_mem _ hy)) x
    rw [leftL, who_nm key z hkey hz]
    simp only [List.mem_cons, true_and]
    split
    · rename_i hc
      rw [List.mem_cons, ih]
      constructor
      · rintro (rfl | ⟨h1, h2, h3, h4⟩)
        · exact ⟨hc.1, hc.2, hz, .inl rfl⟩
        · exact ⟨h1, h2, h3, .inr h4⟩
      · rintro ⟨h1, h2, h3, h4 | h4⟩
        · exact .inl (nmB_num h3 hz h4)
        · exact .inr ⟨h1, h2, h3, h4⟩
    · rename_i hc
      rw [ih]
      constructor
      · rintro ⟨h1, h2, h3, h4⟩
        exact ⟨h1, h2, h3, .inr h4⟩
      · rintro ⟨h1, h2, h3, h4 | h4⟩
        · have := nmB_num h3 hz h4
          subst this
          exact absurd ⟨h1, h2⟩ hc
        · exact ⟨h1, h2, h3, h4⟩
theorem left_nodup {key : Nat} (hkey : key < 18446744073709551616) {runs : List Nat} : ∀ (ns : List (List UInt8)), (∀ y ∈ ns, ∃ x, x < 100 ∧ y = nmB key x) → ns.Nodup → (leftL key runs ns).Nodup
  | [], _, _ => List.nodup_nil
  | y :: r, h, hd => by
    obtain ⟨z, hz, rfl⟩ := h _ (List.mem_cons_self ..)
    have hd' := List.nodup_cons.1 hd
    have ih := left_nodup hkey (runs := runs) r (fun y hy => h y (List.mem_cons_of_mem _ hy)) hd'.2
    rw [leftL, who_nm key z hkey hz]
    simp only
    split
    · refine List.nodup_cons.2 ⟨fun hx => ?_, ih⟩
      have := ((left_mem hkey r (fun y hy => h y (List.mem_cons_of_mem _ hy)) z).1 hx).2.2.2
      exact hd'.1 this
    · exact ih
theorem DG.Lists.sub {S : DG} {ns : List (List UInt8)} (h : S.Lists ns) : ns.Nodup ∧ ∀ x, x ∈ ns ↔ (S.f x).isSome = true := by
  obtain ⟨ks, h1, h2, _, _, rfl⟩ := h
  exact ⟨(List.mergeSort_perm ks leB).nodup_iff.2 h1, fun x => by rw [(List.mergeSort_perm ks leB).mem_iff, h2]⟩
/-- what is removed of it -/
theorem CDisk.removes {key : Nat} {S : DG} {rs : List (List UInt8)} {runs : List Nat} {top : Nat} {P : List Pr} {c : Bool} {k : Nat} (h : CDisk key S rs runs top P c k) (hk : k < 60) {l : List Nat} (hd : l.Nodup) (hl : ∀ x ∈ l, 0 < x ∧ x < 100 ∧ x ∉ runs ∧ (S.f (nmB key x)).isSome = true)
    (ha : l.length ≤ 1000) : (remS key S l).1.cut = S.cut ∧ CDisk key (remS key S l).1 rs runs top P c (k + 1) ∧ (remS key S l).1.bs (nmB key 0) = S.bs (nmB key 0) ∧ (((remS key S l).2 = 0 ∧ (∀ x ∈ l, (remS key S l).1.f (nmB key x) = none) ∧ ∀ y, (remS key S l).1.f y = S.f y ∨ (remS key S l).1.f y = none) ∨ ((remS key S l).2 = 6 ∧ S.cut = true)) := by
  obtain ⟨h1, h2, h3, h4, h5⟩ := remS_cut key l S hd fun x hx => ⟨(hl x hx).2.1, (hl x hx).2.2.2⟩
  have htp := h.tp
  have hsame : ∀ x, x < 100 → x = 0 ∨ x ∈ runs → (remS key S l).1.f (nmB key x) = S.f (nmB key x) := fun x hx hr => by
    rcases h5 (nmB key x) with e | ⟨_, z, hz, e⟩
    · exact e
    · have hz' := hl z hz
      have := nmB_num hx hz'.2.1 e
      subst this
      rcases hr with rfl | hr
      · omega
      · exact absurd hr hz'.2.2.1
  have hb : ∀ x, x < 100 → x = 0 ∨ x ∈ runs → (remS key S l).1.bs (nmB key x) = S.bs (nmB key x) := fun x hx hr => by unfold DG.bs; rw [hsame x hx hr]
  have hsub : ∀ y, (remS key S l).1.f y = S.f y ∨ (remS key S l).1.f y = none := fun y => (h5 y).imp id fun e => e.1
  have hb0 := hb 0 (by omega) (.inl rfl)
  refine ⟨h2, ?_, hb0, h1.imp (fun e => ⟨e.1, e.2, hsub⟩) id⟩
  exact { h.more (Nat.le_succ k) with
    jb := by rw [hb0]; exact h.jb
    rr := by rw [rrL_congr runs [] fun x hx => hb x (by have := h.rg x hx; omega) (.inr hx)]; exact h.rr
    only := fun y hy => by
      rcases hsub y with e | e
      · rw [e] at hy; exact h.only y hy
      · rw [e] at hy; cases hy
    fresh := fun e x hx hx2 hxr => by
      rcases hsub (nmB key x) with e2 | e2
      · rw [e2]; exact h.fresh e x hx hx2 hxr
      · exact e2
    n := by have := h.n; omega
    wr := by have := h.wr; omega
    jsz := by rw [hb0]; have := h.jsz; omega }
end Go.Proofs.YtdjodigimhgklaaGreatDoor
