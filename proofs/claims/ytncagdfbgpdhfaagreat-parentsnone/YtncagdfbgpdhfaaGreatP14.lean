import Derived.Test.YtncagdfbgpdhfaaGreatP13
/- Plain: an object's bytes are read as the object, and what is read has just these bytes. -/
namespace Go.Proofs.YtncagdfbgpdhfaaGreat
open Go.RowKit

theorem du_wrap (D : Nat) (h : D < 18446744073709551616) : du (wrap64 (D : Int)) = D ∧ -9223372036854775808 ≤ wrap64 (D : Int) ∧ wrap64 (D : Int) < 9223372036854775808 := by
  have h1 := (du_eq (wrap64 (D : Int))).1
  simp [IntKind.wrap, IntKind.bits, IntKind.signed] at h1
  unfold wrap64 at *
  omega
theorem wrap_du (d : Int) (h : -9223372036854775808 ≤ d ∧ d < 9223372036854775808) : wrap64 (du d : Int) = d := by
  have h1 := (du_eq d).1
  simp [IntKind.wrap, IntKind.bits, IntKind.signed] at h1
  unfold wrap64
  omega
abbrev ComD := Int × List Int × ByteArray × Int × ByteArray
/-- a commit as it may be read -/
structure ComOk (c : ComD) : Prop where
  tree : 0 ≤ c.1 ∧ c.1 < 18446744073709551616
  pars : ∀ x ∈ c.2.1, 0 ≤ x ∧ x < 18446744073709551616
  num : c.2.1.length < 18446744073709551616
  au : c.2.2.1.size ≤ 64
  date : -9223372036854775808 ≤ c.2.2.2.1 ∧ c.2.2.2.1 < 9223372036854775808
  tx : c.2.2.2.2.size ≤ 1024
abbrev comBB (c : ComD) : List UInt8 := comB c.1 c.2.1 c.2.2.1 c.2.2.2.1 c.2.2.2.2
theorem com_rd {l : List UInt8} (h0 : (comR l 1 0).2.2 = 0) (hp : 1 ≤ l.length) (h1 : l.head? = some 99) : At l 0 (comBB (comR l 1 0).1) (comR l 1 0).2.1 ∧ ComOk (comR l 1 0).1 := by
  unfold comR at h0 ⊢
  simp only at h0 ⊢
  obtain ⟨⟨tv, tp, te⟩, ht⟩ : ∃ y, y = wordR l 1 0 := ⟨_, rfl⟩
  rw [← ht] at h0 ⊢
  simp only at h0 ⊢
  obtain ⟨⟨uv, up, ue⟩, hu⟩ : ∃ y, y = uintR l tp te := ⟨_, rfl⟩
  rw [← hu] at h0 ⊢
  simp only at h0 ⊢
  obtain ⟨⟨qs, qp, qe⟩, hq⟩ : ∃ y, y = parsR uv.toNat l up ue [] := ⟨_, rfl⟩
  rw [← hq] at h0 ⊢
  simp only at h0 ⊢
  obtain ⟨⟨av, ap, ae⟩, ha⟩ : ∃ y, y = textR l qp qe 64 := ⟨_, rfl⟩
  rw [← ha] at h0 ⊢
  simp only at h0 ⊢
  obtain ⟨⟨dv, dp, de⟩, hd⟩ : ∃ y, y = wordR l ap ae := ⟨_, rfl⟩
  rw [← hd] at h0 ⊢
  simp only at h0 ⊢
  obtain ⟨⟨xv, xp, xe⟩, hx⟩ : ∃ y, y = textR l dp de 1024 := ⟨_, rfl⟩
  rw [← hx] at h0 ⊢
  simp only at h0 ⊢
  subst h0
  have posW : ∀ {l : List UInt8} {p q : Nat} {e f v : Int}, wordR l p e = (v, q, f) → p ≤ l.length → q ≤ l.length := fun {l p q e f v} h hp => by
    unfold wordR at h
    split at h
    · cases h; exact hp
    · split at h
      · cases h; exact hp
      · cases h; omega
  have posU : ∀ {l : List UInt8} {p q : Nat} {e f v : Int}, uintR l p e = (v, q, f) → p ≤ l.length → q ≤ l.length := fun {l p q e f v} h hp => by
    unfold uintR at h
    have := num_le (l.drop p)
    rw [List.length_drop] at this
    split at h
    · cases h; exact hp
    · split at h
      · cases h; omega
      · cases h; exact hp
  have posT : ∀ {l : List UInt8} {p q : Nat} {e f m : Int} {v : ByteArray}, textR l p e m = (v, q, f) → p ≤ l.length → q ≤ l.length := fun {l p q e f m v} h hp => by
    unfold textR at h
    have := (txt_bounds (l.drop p) m).2
    rw [List.length_drop] at this
    split at h
    · cases h; exact hp
    · split at h
      · cases h; omega
      · cases h; exact hp
  have posP : ∀ (n : Nat) (l : List UInt8) (p : Nat) (e : Int) (acc : List Int), p ≤ l.length → (parsR n l p e acc).2.1 ≤ l.length := by
    intro n
    induction n with
    | zero => intro l p e acc hp; exact hp
    | succ n ih =>
      intro l p e acc hp
      unfold parsR
      split
      · exact hp
      · exact ih _ _ _ _ (posW rfl hp)
  have l1 := posW ht.symm hp
  have l2 := posU hu.symm l1
  have l3 : qp ≤ l.length := by have := posP uv.toNat l up ue [] l2; rw [← hq] at this; exact this
  have l4 := posT ha.symm l3
  have l5 := posW hd.symm l4
  obtain ⟨rfl, a6, s6⟩ := text_at hx.symm l5
  obtain ⟨rfl, D, rfl, hD, a5⟩ := word_at hd.symm
  obtain ⟨rfl, a4, s4⟩ := text_at ha.symm l3
  have hq2 := pars_at uv.toNat l up ue [] (by rw [← hq]) l2
  rw [← hq] at hq2
  simp only at hq2
  obtain ⟨M, m1, m2, m3, a3, m4⟩ := hq2
  subst m3
  obtain ⟨rfl, X, rfl, hX, a2⟩ := uint_at hu.symm l1
  obtain ⟨_, Y, rfl, hY, a1⟩ := word_at ht.symm
  simp only [List.nil_append, Int.toNat_natCast] at m1 m2
  subst m1
  obtain ⟨w1, w2, w3⟩ := du_wrap D hD
  refine ⟨?_, ⟨by show (0 : Int) ≤ (Y : Int) ∧ (Y : Int) < _; omega, m4, by show qs.length < _; omega, by show av.size ≤ 64; omega, ⟨w2, w3⟩, by show xv.size ≤ 1024; omega⟩⟩
  have a0 : At l 0 [99] 1 := by
    cases l with
    | nil => simp at h1
    | cons c t => simp at h1; subst h1; exact ⟨by simp, rfl, by simp⟩
  have := (((((a0.trans a1).trans a2).trans a3).trans a4).trans a5).trans a6
  unfold comBB comB
  simp only
  rw [w1, m2]
  simpa using this
/-- back -/
theorem word_of {l r : List UInt8} {p X : Nat} (h : l.drop p = wide X ++ r) (hX : X < 18446744073709551616) (hp : p ≤ l.length) : wordR l p 0 = ((X : Int), p + 8, 0) := by
  have hl := congrArg List.length h
  rw [List.length_drop, List.length_append, owide_len] at hl
  unfold wordR
  rw [if_neg (by simp), if_neg (by omega), h, List.take_append_of_le_length (by rw [owide_len]; omega), List.take_of_length_le (by rw [owide_len]; omega)]
  have := owideVal_wide X [] 8 (by omega) (by omega)
  rw [List.append_nil] at this
  rw [this]
  simp
theorem uint_of {l r : List UInt8} {p X : Nat} (h : l.drop p = short X ++ r) (hX : X < 18446744073709551616) : uintR l p 0 = ((X : Int), p + (short X).length, 0) := by
  unfold uintR
  rw [if_neg (by simp), h, onum_short_app X hX r, if_pos rfl]
theorem byte_of {l r : List UInt8} {p : Nat} {c : UInt8} (h : l.drop p = c :: r) : byteR l p 0 = ((c.toNat : Int), p + 1, 0) := by
  have hp : p < l.length := by
    have := congrArg List.length h
    rw [List.length_drop] at this
    simp at this
    omega
  unfold byteR
  rw [if_neg (by simp), if_pos hp]
  rw [List.drop_eq_getElem_cons hp] at h
  have h1 : l[p] = c := by cases h; rfl
  simp [bt, hp, h1]
theorem text_of {l r : List UInt8} {p : Nat} {m : Int} {s : ByteArray} (h : l.drop p = (short s.size ++ s.data.toList) ++ r) (hm : (s.size : Int) ≤ m) (hs : s.size < 18446744073709551616) : textR l p 0 m = (s, p + (short s.size ++ s.data.toList).length, 0) := by
  have hsl : s.data.toList.length = s.size := Array.length_toList
  rw [List.append_assoc] at h
  have hn := onum_short_app s.size hs (s.data.toList ++ r)
  have ht := txt_ok (short s.size ++ (s.data.toList ++ r)) m (by omega) (by rw [hn]) (by rw [hn]; simp only; omega) (by rw [hn]; simp only [List.length_append]; omega)
  rw [hn] at ht
  simp only [Int.toNat_natCast] at ht
  unfold textR cutT
  rw [if_neg (by simp), h, ht, if_pos rfl]
  simp only
  have e : ((short s.size ++ (s.data.toList ++ r)).take ((short s.size).length + s.size)).drop (short s.size).length = s.data.toList := by
    rw [← List.append_assoc, List.take_append_of_le_length (by simp [hsl]), List.take_of_length_le (by simp [hsl]), List.drop_append]
    simp
  rw [e, List.length_append, hsl]
theorem ent_of {l r : List UInt8} {p : Nat} {x : Ent} (h : l.drop p = entB x ++ r) (ok : EntOk x) (hp : p ≤ l.length) : entR l p 0 = (some x, p + (entB x).length, 0) := by
  obtain ⟨nm, fo, id⟩ := x
  obtain ⟨o1, o2, o3⟩ := ok
  simp only at o1 o2 o3
  obtain ⟨X, rfl⟩ := Int.eq_ofNat_of_zero_le o2
  unfold entB at h ⊢
  simp only [Int.toNat_natCast] at h ⊢
  rw [List.append_assoc, List.append_assoc] at h
  have ht := text_of (m := 32) h (by omega) (by omega)
  obtain ⟨a1, h2⟩ := At.of h hp
  have hb := byte_of (c := if fo = true then 1 else 0) (by rw [h2]; rfl)
  have h3 : l.drop (p + (short nm.size ++ nm.data.toList).length + 1) = wide X ++ r := by rw [← List.drop_drop, h2]; rfl
  have hle : p + (short nm.size ++ nm.data.toList).length + 1 ≤ l.length := by
    have := congrArg List.length h2
    rw [List.length_drop] at this
    simp only [List.length_append, List.length_cons, List.length_nil] at this
    have := a1.le
    simp only [List.length_append] at this ⊢
    omega
  have hw := word_of h3 (by omega) hle
  unfold entR
  rw [ht]
  simp only
  rw [hb]
  simp only
  rw [hw]
  simp only
  rw [if_neg (by cases fo <;> simp)]
  have e1 : (((if fo = true then (1 : UInt8) else 0).toNat : Int) == 1) = fo := by cases fo <;> rfl
  rw [e1]
  simp only [List.length_append, List.length_cons, List.length_nil, owide_len, Prod.mk.injEq, and_true, true_and]
  omega
theorem ents_of : ∀ (M : List Ent) (l r : List UInt8) (p : Nat) (acc : List Ent), l.drop p = entsB M ++ r → (∀ x ∈ M, EntOk x) → p ≤ l.length → entsR M.length l p 0 acc = (some (acc ++ M), p + (entsB M).length, 0)
  | [], l, r, p, acc, h, _, hp => by simp [entsR, entsB]
  | x :: M, l, r, p, acc, h, ok, hp => by
    have h' : l.drop p = entB x ++ (entsB M ++ r) := by rw [h]; simp [entsB]
    have he := ent_of h' (ok x (by simp)) hp
    obtain ⟨a1, h2⟩ := At.of h' hp
    have ih := ents_of M l r (p + (entB x).length) (acc ++ [x]) h2 (fun y hy => ok y (by simp [hy])) a1.le
    rw [List.length_cons, entsR, he]
    simp only
    rw [ih]
    simp [entsB]
    omega
theorem tree_of {l r : List UInt8} {p : Nat} {R : List Ent} (h : l.drop p = (short R.length ++ entsB R) ++ r) (ok : ∀ x ∈ R, EntOk x) (hp : p ≤ l.length) (hR : R.length < 18446744073709551616) : treeR l p 0 = (some R, p + (short R.length ++ entsB R).length, 0) := by
  rw [List.append_assoc] at h
  have hu := uint_of h hR
  obtain ⟨a1, h2⟩ := At.of h hp
  have he := ents_of R l r _ [] h2 ok a1.le
  unfold treeR
  rw [hu]
  simp only [Int.toNat_natCast]
  rw [he]
  simp
  omega
theorem pars_of : ∀ (M : List Int) (l r : List UInt8) (p : Nat) (acc : List Int), l.drop p = parsB M ++ r → (∀ x ∈ M, 0 ≤ x ∧ x < 18446744073709551616) → p ≤ l.length → parsR M.length l p 0 acc = (acc ++ M, p + (parsB M).length, 0)
  | [], l, r, p, acc, h, _, hp => by simp [parsR, parsB]
  | x :: M, l, r, p, acc, h, ok, hp => by
    obtain ⟨o1, o2⟩ := ok x (by simp)
    obtain ⟨X, rfl⟩ := Int.eq_ofNat_of_zero_le o1
    have h' : l.drop p = wide X ++ (parsB M ++ r) := by rw [h]; simp [parsB]
    have he := word_of h' (by omega) hp
    obtain ⟨a1, h2⟩ := At.of h' hp
    rw [owide_len] at a1 h2
    have ih := pars_of M l r (p + 8) (acc ++ [(X : Int)]) h2 (fun y hy => ok y (by simp [hy])) a1.le
    rw [List.length_cons, parsR, if_neg (by simp), he]
    simp only
    rw [ih]
    simp [parsB, owide_len]
    omega
theorem com_of {l r : List UInt8} {c : ComD} (h : l = comBB c ++ r) (ok : ComOk c) : comR l 1 0 = (c, (comBB c).length, 0) := by
  obtain ⟨t, ps, au, d, tx⟩ := c
  obtain ⟨o1, o2, o3, o4, o5, o6⟩ := ok
  simp only at o1 o2 o3 o4 o5 o6
  obtain ⟨X, rfl⟩ := Int.eq_ofNat_of_zero_le o1.1
  have h1 : l.drop 1 = wide X ++ (short ps.length ++ (parsB ps ++ ((short au.size ++ au.data.toList) ++ (wide (du d) ++ ((short tx.size ++ tx.data.toList) ++ r))))) := by
    rw [h]; unfold comBB comB; simp
  have hp1 : 1 ≤ l.length := by rw [h]; unfold comBB comB; simp
  have e1 := word_of h1 (by omega) hp1
  obtain ⟨a1, h2⟩ := At.of h1 hp1
  rw [owide_len] at a1 h2
  have e2 := uint_of h2 o3
  obtain ⟨a2, h3⟩ := At.of h2 a1.le
  have e3 := pars_of ps l _ _ [] h3 o2 a2.le
  obtain ⟨a3, h4⟩ := At.of h3 a2.le
  have e4 := text_of (m := 64) h4 (by omega) (by omega)
  obtain ⟨a4, h5⟩ := At.of h4 a3.le
  have e5 := word_of h5 (du_eq d).2 a4.le
  obtain ⟨a5, h6⟩ := At.of h5 a4.le
  rw [owide_len] at a5 h6
  have e6 := text_of (m := 1024) h6 (by omega) (by omega)
  unfold comR
  simp only
  rw [e1]
  simp only
  rw [e2]
  simp only [Int.toNat_natCast]
  rw [e3]
  simp only
  rw [e4]
  simp only
  rw [e5]
  simp only
  rw [e6, wrap_du d o5]
  simp only [List.nil_append, Prod.mk.injEq, and_true, true_and]
  unfold comBB comB
  simp only [List.length_append, List.length_cons, List.length_nil, owide_len]
/-- an object's bytes, and what holds of what is read -/
def obB : Ob → List UInt8
  | .blob b => 98 :: b
  | .tree l => treeB l
  | .com c => comBB c
def ObOk : Ob → Prop
  | .blob _ => True
  | .tree l => (∀ x ∈ l, EntOk x) ∧ l.length < 18446744073709551616
  | .com c => ComOk c
theorem head_byte (l : List UInt8) (c : UInt8) (h : (byteR l 0 0).1 = (c.toNat : Int)) (hc : c ≠ 0) : l.head? = some c := by
  have hne : (byteR l 0 0).1 ≠ 0 := by rw [h]; intro e; exact hc (UInt8.toNat_inj.1 (by simp; omega))
  obtain ⟨_, hl⟩ := byte_head hne
  cases l with
  | nil => simp at hl
  | cons x t =>
    unfold byteR at h
    rw [if_neg (by simp), if_pos (by simp)] at h
    simp [bt] at h
    simp
    exact UInt8.toNat_inj.1 (by omega)
theorem decR_bytes {l : List UInt8} {o : Ob} (h : decR l = some o) (hl : l.length ≤ 549755813888) : obB o = l ∧ ObOk o := by
  unfold decR at h
  by_cases h1 : (byteR l 0 0).1 = 98
  · rw [if_pos h1] at h
    cases h
    have hh := head_byte l 98 h1 (by decide)
    cases l with
    | nil => simp at hh
    | cons x t => simp at hh; subst hh; exact ⟨rfl, trivial⟩
  · rw [if_neg h1] at h
    by_cases h2 : (byteR l 0 0).1 = 116
    · rw [if_pos h2] at h
      have hh := head_byte l 116 h2 (by decide)
      have hl1 : 1 ≤ l.length := by cases l with | nil => simp at hh | cons x t => simp
      cases ht : (treeR l 1 0).1 with
      | none => rw [ht] at h; simp at h
      | some R =>
        rw [ht] at h
        simp only at h
        by_cases hq : (treeR l 1 0).2.2 = 0 ∧ (treeR l 1 0).2.1 = l.length
        · rw [if_pos hq] at h
          cases h
          obtain ⟨a, ok⟩ := tree_rd ht hq.1 hl1
          have a0 : At l 0 [116] 1 := by
            cases l with
            | nil => simp at hh
            | cons c t => simp at hh; subst hh; exact ⟨by simp, rfl, by simp⟩
          have a2 := a0.trans a
          have e := a2.eq
          rw [hq.2, List.drop_length, List.append_nil, List.drop_zero] at e
          refine ⟨by rw [e]; rfl, ok, ?_⟩
          have hlen := congrArg List.length e
          have : R.length ≤ (entsB R).length := by
            clear e hlen a2 a0 a ht hq
            induction R with
            | nil => simp
            | cons x R ih =>
              have := ih (fun y hy => ok y (by simp [hy]))
              simp only [entsB, List.map_cons, List.flatten_cons, List.length_append, List.length_cons] at this ⊢
              have : 8 ≤ (entB x).length := by simp [entB, owide_len]; omega
              omega
          simp only [List.length_append, List.length_cons] at hlen
          omega
        · rw [if_neg hq] at h; cases h
    · rw [if_neg h2] at h
      by_cases h3 : (byteR l 0 0).1 = 99
      · rw [if_pos h3] at h
        have hh := head_byte l 99 h3 (by decide)
        have hl1 : 1 ≤ l.length := by cases l with | nil => simp at hh | cons x t => simp
        by_cases hq : (comR l 1 0).2.2 = 0 ∧ (comR l 1 0).2.1 = l.length
        · rw [if_pos hq] at h
          cases h
          obtain ⟨a, ok⟩ := com_rd hq.1 hl1 hh
          have e := a.eq
          rw [hq.2, List.drop_length, List.append_nil, List.drop_zero] at e
          exact ⟨e.symm, ok⟩
        · rw [if_neg hq] at h; cases h
      · rw [if_neg h3] at h; cases h
theorem byte_cons (c : UInt8) (t : List UInt8) : (byteR (c :: t) 0 0).1 = (c.toNat : Int) := by
  have := byte_of (l := c :: t) (p := 0) (c := c) (r := t) rfl
  rw [this]
theorem decR_obB (o : Ob) (ok : ObOk o) (r : List UInt8) : decR (obB o ++ r) = match o with
    | .blob b => some (.blob (b ++ r))
    | .tree l => if r = [] then some (.tree l) else none
    | .com c => if r = [] then some (.com c) else none := by
  cases o with
  | blob b =>
    show decR (98 :: (b ++ r)) = _
    unfold decR
    rw [byte_cons, if_pos (by decide)]
    rfl
  | tree l =>
    have hd : (obB (.tree l) ++ r).drop 1 = (short l.length ++ entsB l) ++ r := rfl
    have ht := tree_of hd ok.1 (by simp [obB, treeB]) ok.2
    have hb : (byteR (obB (.tree l) ++ r) 0 0).1 = 116 := byte_cons 116 _
    unfold decR
    rw [hb, if_neg (by decide), if_pos rfl, ht]
    simp only
    by_cases hr : r = []
    · subst hr
      rw [if_pos rfl, if_pos ⟨trivial, by simp [obB, treeB]; omega⟩]
    · rw [if_neg hr, if_neg]
      rintro ⟨_, hx⟩
      apply hr
      apply List.eq_nil_of_length_eq_zero
      simp [obB, treeB] at hx
      omega
  | com c =>
    have ht := com_of (l := obB (.com c) ++ r) rfl ok
    have hb : (byteR (obB (.com c) ++ r) 0 0).1 = 99 := by
      have : obB (.com c) ++ r = 99 :: (obB (.com c) ++ r).drop 1 := by simp [obB, comBB, comB]
      rw [this]
      exact byte_cons 99 _
    unfold decR
    rw [hb, if_neg (by decide), if_neg (by decide), if_pos rfl, ht]
    simp only
    by_cases hr : r = []
    · subst hr
      rw [if_pos rfl, if_pos ⟨trivial, by simp [obB]⟩]
    · rw [if_neg hr, if_neg]
      rintro ⟨_, hx⟩
      apply hr
      apply List.eq_nil_of_length_eq_zero
      simp [obB] at hx
      exact List.length_eq_zero_iff.2 hx
end Go.Proofs.YtncagdfbgpdhfaaGreat

/- What Decode answers, for all bytes; what the layer answers of what it read. -/
namespace Go.Proofs.YtncagdfbgpdhfaaGreat
open Go.RowKit

attribute [local go_sem] Oper.semAt_some

def obErr : Ob → Int
  | .blob b => blobErr b.length
  | .tree l => treeErrs l
  | .com c => comErr c.1 c.2.1 c.2.2.1 c.2.2.2.2
/-- how an object lies in memory -/
def ObAt : Ob → Value → World → Prop
  | .blob b, v, W => ∃ ad cp, v = .iface 82 (.agg #[.slice ad b.length cp]) ∧ Bytes W ad b.length b ∧ (ad = none → b.length = 0 ∧ cp = 0) ∧ b.length ≤ 9223372036854775807
  | .tree l, v, W => ∃ ad cp, v = trV ad l.length cp ∧ Ents W ad l.length l ∧ Fields l ∧ l.length ≤ 9223372036854775807
  | .com c, v, W => ∃ ad cp, v = coV c.1 ad c.2.1.length cp c.2.2.1 c.2.2.2.1 c.2.2.2.2 ∧ Com W c.1 ad c.2.1.length cp c.2.1 c.2.2.1 c.2.2.2.1 c.2.2.2.2
theorem ObAt.below {o : Ob} {v : Value} {W W' : World} (h : ObAt o v W) (hB : Below W.heap.size W W') : ObAt o v W' := by
  cases o with
  | blob b => obtain ⟨ad, cp, h1, h2, h3⟩ := h; exact ⟨ad, cp, h1, bytes_below h2 hB, h3⟩
  | tree l => obtain ⟨ad, cp, h1, h2, h3⟩ := h; exact ⟨ad, cp, h1, h2.below hB, h3⟩
  | com c => obtain ⟨ad, cp, h1, h2⟩ := h; exact ⟨ad, cp, h1, h2.below hB⟩
theorem fields_ok {l : List Ent} (h : ∀ x ∈ l, EntOk x) : Fields l := by
  refine ⟨fun j x hx => ?_, fun j x hx => ?_⟩
  · have := (h x (List.mem_of_getElem? hx)).1
    unfold maxLen
    omega
  · exact (h x (List.mem_of_getElem? hx)).2
theorem dec_at {w w' : World} {o : Ob} {x : Ending} (h : DecOut w (some o) x w') (ok : ObOk o) (hs : (obB o).length ≤ 549755813888) : ∃ v, x = .returned v ∧ ObAt o v w' := by
  cases o with
  | blob b =>
    obtain ⟨ad, cp, rfl, hb⟩ := h
    simp only [obB, List.length_cons] at hs
    exact ⟨_, rfl, some ad, cp, rfl, hb, (fun e => by cases e), by omega⟩
  | tree l =>
    obtain ⟨ad, cp, rfl, hb⟩ := h
    refine ⟨_, rfl, ad, cp, rfl, own_ents hb rfl, fields_ok ok.1, ?_⟩
    have : l.length ≤ (entsB l).length := by
      clear hb hs
      have ok1 := ok.1
      clear ok
      induction l with
      | nil => simp
      | cons x R ih =>
        have := ih (fun y hy => ok1 y (by simp [hy]))
        simp only [entsB, List.map_cons, List.flatten_cons, List.length_append, List.length_cons] at this ⊢
        have : 8 ≤ (entB x).length := by simp [entB, owide_len]; omega
        omega
    simp only [obB, treeB, List.length_cons, List.length_append] at hs
    omega
  | com c =>
    obtain ⟨ad, cp, rfl, hb⟩ := h
    obtain ⟨ad', c', e, hc1, hc2⟩ := row_shape hb
    cases e
    obtain ⟨ad', c', e, hI⟩ := own_ids hb
    cases e
    have h1 := ok.au
    have h2 := ok.tx
    refine ⟨_, rfl, ad, cp, rfl, ⟨ok.tree, hI, ok.pars, ⟨hc1, ?_, hc2⟩, by unfold maxLen; omega, ok.date, by unfold maxLen; omega⟩⟩
    have := parsB_len c.2.1 c.2.1.length (Nat.le_refl _)
    rw [List.take_length] at this
    simp only [obB, comBB, comB, List.length_append] at hs
    omega
theorem check_ob {o : Ob} {v : Value} (W : World) (h : ObAt o v W) : Calls Tryz.prog 74 #[v] W fun e w' => e = .returned (.int .i64 (obErr o)) ∧ Below W.heap.size W w' := by
  cases o with
  | blob b => obtain ⟨ad, cp, rfl, h2, h3⟩ := h; exact check_blob _ _ _ W
  | tree l => obtain ⟨ad, cp, rfl, h2, h3, h4⟩ := h; exact check_tree _ _ _ l W h2 h3.name h4
  | com c => obtain ⟨ad, cp, rfl, h2⟩ := h; exact check_com _ _ _ _ _ _ _ _ W h2
theorem Encode_ob {o : Ob} {v : Value} (W : World) (h : ObAt o v W) (h0 : obErr o = 0) : Calls Tryz.prog 52 #[v] W fun e w' => ∃ ad cp, e = .returned (.tuple #[.slice ad (obB o).length cp, .int .i64 0]) ∧ Bytes w' ad (obB o).length (obB o) ∧ Below W.heap.size W w' := by
  cases o with
  | blob b =>
    obtain ⟨ad, cp, rfl, h2, h3, h4⟩ := h
    have hb : b.length ≤ 4096 := by
      have h0' : blobErr b.length = 0 := h0
      unfold blobErr at h0'
      split at h0'
      · omega
      · omega
    refine (Encode_blob ad _ cp b W h2 h3 hb).mono fun e w' hx => ?_
    obtain ⟨v, rfl, ho, hB⟩ := hx
    have ho' : OwnB W.heap.size (98 :: b) v w' := ⟨ho⟩
    obtain ⟨a', c', rfl, _⟩ := ho'.shape rfl
    exact ⟨a', c', rfl, ho'.bytes rfl, hB⟩
  | tree l =>
    obtain ⟨ad, cp, rfl, h2, h3, h4⟩ := h
    refine (Encode_tree ad _ cp l W h2 h3 h4 h0).mono fun e w' hx => ?_
    obtain ⟨v, rfl, ho', hB⟩ := hx
    obtain ⟨a', c', rfl, _⟩ := ho'.shape rfl
    exact ⟨a', c', rfl, ho'.bytes rfl, hB⟩
  | com c =>
    obtain ⟨ad, cp, rfl, h2⟩ := h
    refine (Encode_com _ _ _ _ _ _ _ _ W h2 h0).mono fun e w' hx => ?_
    obtain ⟨v, rfl, ho', hB⟩ := hx
    obtain ⟨a', c', rfl, _⟩ := ho'.shape rfl
    exact ⟨a', c', rfl, ho'.bytes rfl, hB⟩
theorem encode_ob {o : Ob} {v : Value} (W : World) (h : ObAt o v W) (h0 : obErr o = 0) : Calls Tryz.prog 75 #[v] W fun e w' => ∃ ad cp, e = .returned (.slice ad (obB o).length cp) ∧ Bytes w' ad (obB o).length (obB o) ∧ Below W.heap.size W w' := by
  cases o with
  | blob b =>
    obtain ⟨ad, cp, rfl, h2, h3, h4⟩ := h
    have hb : b.length ≤ 4096 := by
      have h0' : blobErr b.length = 0 := h0
      unfold blobErr at h0'
      split at h0'
      · omega
      · omega
    refine (encode_blob ad _ cp b W h2 h3 (by omega)).mono fun e w' hx => ?_
    obtain ⟨v, rfl, ho, hB⟩ := hx
    have ho' : OwnB W.heap.size (98 :: b) v w' := ⟨ho⟩
    obtain ⟨a', c', rfl, _⟩ := ho'.shape rfl
    exact ⟨a', c', rfl, ho'.bytes rfl, hB⟩
  | tree l =>
    obtain ⟨ad, cp, rfl, h2, h3, h4⟩ := h
    obtain ⟨f1, f2⟩ := fits_of h3 h0
    refine (encode_tree ad _ cp l W h2 f2 f1).mono fun e w' hx => ?_
    obtain ⟨a', m, c', rfl, hm, ho', hB⟩ := hx
    subst hm
    exact ⟨a', c', rfl, ho'.bytes rfl, hB⟩
  | com c =>
    obtain ⟨ad, cp, rfl, h2⟩ := h
    refine (encode_com _ _ _ _ _ _ _ _ W h2 h0).mono fun e w' hx => ?_
    obtain ⟨a', m, c', rfl, hm, ho', hB⟩ := hx
    subst hm
    exact ⟨a', c', rfl, ho'.bytes rfl, hB⟩
theorem Same_ob {o o' : Ob} {v v' : Value} (W : World) (h : ObAt o v W) (h' : ObAt o' v' W) (h0 : obErr o = 0) (h0' : obErr o' = 0) :
    Calls Tryz.prog 55 #[v, v'] W fun e w' => e = .returned (.bool (decide (obB o = obB o'))) ∧ Below W.heap.size W w' := by
  have c1 := check_ob W h
  rw [h0] at c1
  have c2 := fun X hB => check_ob X (h'.below (W' := X) hB)
  rw [h0'] at c2
  have e1 := fun X hB => encode_ob X (h.below (W' := X) hB) h0
  have e2 := fun X hB => encode_ob X (h'.below (W' := X) hB) h0'
  generalize obB o = TA at *
  generalize obB o' = TB at *
  go_enter Tryz.func55, Tryz.ntmps55
  go_wp2_with first
    | (go_at_call 74; refine c1.mono ?_; clear c1; rintro e w1 ⟨rfl, hB1⟩)
    | (go_at_call 74; refine (c2 _ hB1).mono ?_; clear c2; rintro e w2 ⟨rfl, hB2⟩; have hB : Below W.heap.size W w2 := hB1.trans (hB2.mono hB1.size); clear hB1 hB2)
    | (go_at_call 75; refine (e1 _ hB).mono ?_; clear e1; rintro e w3 ⟨ad, cp, rfl, hy3, hB3⟩; have hBB : Below W.heap.size W w3 := hB.trans (hB3.mono hB.size); clear hB hB3)
    | (go_at_call 75; refine (e2 _ hBB).mono ?_; clear e2; rintro e w4 ⟨ad4, cp4, rfl, hy4, hB4⟩; have hy3' := bytes_below hy3 hB4; clear hy3)
    | (go_at_call 77; refine (oequal_any _ ad ad4 _ _ cp cp4 TA TB hy3' hy4).mono ?_; rintro e w5 ⟨rfl, h5⟩; subst h5)
  go_ret
  exact ⟨rfl, hBB.trans (hB4.mono hBB.size)⟩
/-- what Decode answers -/
def decG (l : List UInt8) : Option Ob := (decR l).bind fun o => if obErr o = 0 then some o else none
def GotO : Option Ob → Ending → World → Prop
  | none, x, _ => x = .returned (.tuple #[.nilIface, .int .i64 8])
  | some o, x, W => ∃ v, x = .returned (.tuple #[v, .int .i64 0]) ∧ ObAt o v W
theorem Decode_any (a : Option Addr) (n cap : Nat) (l : List UInt8) (w : World) (hb : Bytes w a n l) (hn : n ≤ 549755813888) :
    Calls Tryz.prog 72 #[.slice a n cap] w fun x w' => GotO (decG l) x w' ∧ Below w.heap.size w w' := by
  have hd := decode_any a n cap l w hb hn
  have hll := hb.1
  unfold decG
  cases hr : decR l with
  | none =>
    rw [hr] at hd
    have hd' : Calls Tryz.prog 99 #[.slice a n cap] w fun x w' => x = .returned .nilIface ∧ Below w.heap.size w w' := hd
    simp only [Option.bind_none]
    clear hd hr
    go_enter Tryz.func72, Tryz.ntmps72
    go_wp2_with first
      | (go_at_call 99; refine hd'.mono ?_; clear hd'; rintro y w1 ⟨rfl, hB1⟩)
      | (go_at_call 74; refine (ocheck_odd _ odd_nil _).mono ?_; rintro y w2 ⟨rfl, hw2⟩; subst hw2)
    go_ret2
    exact ⟨rfl, hB1⟩
  | some o =>
    rw [hr] at hd
    obtain ⟨hob, ok⟩ := decR_bytes hr (by omega)
    have hd' : Calls Tryz.prog 99 #[.slice a n cap] w fun x w' => ∃ v, x = .returned v ∧ ObAt o v w' ∧ Below w.heap.size w w' := hd.mono fun x w' hx => by
      obtain ⟨v, h1, h2⟩ := dec_at hx.1 ok (by rw [hob]; omega)
      exact ⟨v, h1, h2, hx.2⟩
    simp only [Option.bind_some]
    have HK : Hid (∀ W v, ObAt o v W → Calls Tryz.prog 74 #[v] W fun e w' => e = .returned (.int .i64 (obErr o)) ∧ Below W.heap.size W w') := fun W v h => check_ob W h
    generalize obErr o = E at HK ⊢
    clear hd hr hob ok
    by_cases hE : E = 0
    · subst hE
      rw [if_pos rfl]
      go_enter Tryz.func72, Tryz.ntmps72
      go_wp2_with first
        | (go_at_call 99; refine hd'.mono ?_; clear hd'; rintro y w1 ⟨v, rfl, hO1, hB1⟩)
        | (go_at_call 74; refine (HK.out _ _ hO1).mono ?_; rintro y w2 ⟨rfl, hB2⟩)
      go_ret2
      exact ⟨⟨v, rfl, hO1.below hB2⟩, hB1.trans (hB2.mono hB1.size)⟩
    · rw [if_neg hE]
      have e1 : (E == 0) = false := by simp [hE]
      have e2 : (E != 0) = true := by simp [hE]
      go_enter Tryz.func72, Tryz.ntmps72
      go_wp2_with first
        | (go_at_call 99; refine hd'.mono ?_; clear hd'; rintro y w1 ⟨v, rfl, hO1, hB1⟩)
        | (go_at_call 74; refine (HK.out _ _ hO1).mono ?_; rintro y w2 ⟨rfl, hB2⟩)
      go_ret2
      exact ⟨rfl, hB1.trans (hB2.mono hB1.size)⟩
theorem decG_some {l : List UInt8} {o : Ob} (h : decG l = some o) (hl : l.length ≤ 549755813888) : decR l = some o ∧ obErr o = 0 ∧ obB o = l ∧ ObOk o := by
  unfold decG at h
  cases hr : decR l with
  | none => rw [hr] at h; cases h
  | some p =>
    rw [hr, Option.bind_some] at h
    by_cases h0 : obErr p = 0
    · rw [if_pos h0] at h
      cases h
      obtain ⟨h1, h2⟩ := decR_bytes hr hl
      exact ⟨rfl, h0, h1, h2⟩
    · rw [if_neg h0] at h; cases h
end Go.Proofs.YtncagdfbgpdhfaaGreat
