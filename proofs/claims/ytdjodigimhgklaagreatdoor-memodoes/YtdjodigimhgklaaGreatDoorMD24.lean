import Derived.Test.YtdjodigimhgklaaGreatDoorMD23
import Derived.Test.YtdjodigimhgklaaGreatDoorMD19
import Derived.Test.YtdjodigimhgklaaGreatDoorMD01
import Derived.Test.YtdjodigimhgklaaGreatDoorMD09
import Derived.Test.YtdjodigimhgklaaGreatDoorMD16
/- The memo's search among pairs that rise. -/
namespace Go.Proofs.YtdjodigimhgklaaGreatDoor
open Go.RowKit Go.Shelf Go.Maps

attribute [local go_sem] Oper.semAt_some

theorem cmpN_neg (x y : Nat) : cmpN x y < 0 ↔ x < y := by unfold cmpN; split <;> (try split) <;> omega
theorem cmpN_zero (x y : Nat) : (cmpN x y == 0) = decide (x = y) := by
  unfold cmpN
  by_cases h1 : x < y
  · rw [if_pos h1, decide_eq_false (by omega)]; rfl
  · rw [if_neg h1]
    by_cases h2 : y < x
    · rw [if_pos h2, decide_eq_false (by omega)]; rfl
    · rw [if_neg h2, decide_eq_true (by omega)]; rfl
theorem cnt_of : ∀ (l : List Pr) (x i : Nat), i ≤ l.length → (∀ t p, t < i → l[t]? = some p → p.1 < x) → (∀ t p, i ≤ t → l[t]? = some p → ¬ p.1 < x) → cntP l x = i
  | [], x, i, hi, _, _ => by
    obtain rfl : i = 0 := by simpa using hi
    rfl
  | q :: r, x, 0, _, _, h2 => by
    unfold cntP
    rw [List.countP_eq_zero]
    intro p hp
    obtain ⟨t, ht⟩ := List.mem_iff_getElem?.1 hp
    have := h2 t p (Nat.zero_le _) ht
    simp
    omega
  | q :: r, x, i + 1, hi, h1, h2 => by
    have h0 := h1 0 q (by omega) rfl
    have ih := cnt_of r x i (by simpa using hi) (fun t p ht hp => h1 (t + 1) p (by omega) (by simpa using hp)) (fun t p ht hp => h2 (t + 1) p (by omega) (by simpa using hp))
    unfold cntP at ih ⊢
    rw [List.countP_cons_of_pos (by simp; omega), ih]
theorem ycmp_any (x y k : Nat) (w : World) : Calls Tryz.prog 104 #[.agg #[.int .u64 (x : Int), .int .u64 (y : Int)], .int .u64 (k : Int)] w fun e w' => e = .returned (.int .i64 (cmpN x k)) ∧ Below w.heap.size w w' := by
  have hc := fun W => compare_any x k W
  have hBa : Below w.heap.size w (w.alloc (.cells #[.int .u64 (x : Int), .int .u64 (y : Int)] 39)) := (Below.refl _ w).alloc (Nat.le_refl _) _
  generalize cmpN x k = cv at *
  go_enter Tryz.func104, Tryz.ntmps104
  go_wp2_with (go_at_call 71; refine (hc _).mono ?_; clear hc; rintro e w1 ⟨rfl, h1⟩; subst h1)
  go_ret
  exact ⟨rfl, hBa⟩

set_option maxRecDepth 100000 in
set_option maxHeartbeats 4000000 in
theorem ybsearch_any (w : World) (a : Option Addr) (n c : Nat) (es : List Pr) (hE : Prs w a n es) (hr : Ris es) (k : Nat) (hn : n ≤ 1000000) :
    Calls Tryz.prog 103 #[.slice a n c, .int .u64 (k : Int), .func (.func 104) #[] #[]] w fun e w' => e = .returned (.tuple #[.int .i64 (cntP es k : Int), .bool (lookP es k).isSome]) ∧ Below w.heap.size w w' := by
  have hl := hE.1
  obtain ⟨P, hP⟩ : ∃ P, P = cntP es k := ⟨_, rfl⟩
  obtain ⟨Q, hQ⟩ : ∃ Q, Q = (lookP es k).isSome := ⟨_, rfl⟩
  rw [← hP, ← hQ]
  have HPQ : Hid (P = cntP es k ∧ Q = (lookP es k).isSome) := ⟨hP, hQ⟩
  have HE : Hid (Prs w a n es ∧ Ris es) := ⟨hE, hr⟩
  clear hr hP hQ
  go_enter Tryz.func103, Tryz.ntmps103
  go_wp2
  go_loopw [9, 10] (fun v9 v10 wr => ∃ (i j : Nat), i ≤ j ∧ j ≤ n ∧ v9 = .int .i64 (i : Int) ∧ v10 = .int .i64 (j : Int) ∧ Hid (Below w.heap.size w wr ∧ (∀ t (p : Pr), t < i → es[t]? = some p → p.1 < k) ∧ (∀ t (p : Pr), j ≤ t → es[t]? = some p → ¬ p.1 < k))) (fun v9 v10 _ => (intOf v10).toNat - (intOf v9).toNat)
  case atStart => exact ⟨0, n, Nat.zero_le _, Nat.le_refl _, rfl, rfl, Below.refl _ _, fun t x h => by omega, fun t x h hx => by have := (List.getElem?_eq_some_iff.1 hx).1; omega⟩
  case round =>
    obtain ⟨i, j, hij, hjn, rfl, rfl, H⟩ := hrel
    by_cases hlt : i < j
    · have i1 : (i : Int) < (j : Int) := by omega
      obtain ⟨h, hh⟩ : ∃ h, h = (i + j) / 2 := ⟨_, rfl⟩
      have eh : ((i : Int) + (j : Int)) / 2 = (h : Int) := by omega
      have hi : i ≤ h := by omega
      have hj : h < j := by omega
      obtain ⟨x, hx⟩ : ∃ x, es[h]? = some x := ⟨_, List.getElem?_eq_getElem (by omega)⟩
      obtain ⟨b1, o1, rfl, hc1⟩ := hE.2 (by omega)
      obtain ⟨t1, t2⟩ := hc1 h x hx
      have hB := H.out.1
      have q1 := (hB.cell (p := ⟨b1, o1 + h * 2, none⟩) (World.block_lt_of_cell? w _ t1)).trans t1
      have q2 := (hB.cell (p := ⟨b1, o1 + h * 2 + 1, none⟩) (World.block_lt_of_cell? w _ t2)).trans t2
      have i2 : (h : Int) < (n : Int) := by omega
      have i3 : ¬ n ≤ h := by omega
      obtain ⟨px, py⟩ := x
      have hcm := ycmp_any px py k wr
      have hlt3 := cmpN_neg px k
      have hpw := List.pairwise_iff_getElem.1 HE.out.2
      have HLO : Hid (px < k → ∀ t (y : Pr), t < h + 1 → es[t]? = some y → y.1 < k) := fun hx0 t y ht hy => by
        by_cases e : t = h
        · subst e; rw [hx] at hy; cases hy; exact hx0
        · have z := hpw t h (by have := (List.getElem?_eq_some_iff.1 hy).1; omega) (by omega) (by omega)
          have e1 : es[t]'(by omega) = y := (List.getElem?_eq_some_iff.1 hy).2
          have e2 : es[h]'(by omega) = (px, py) := (List.getElem?_eq_some_iff.1 hx).2
          rw [e1, e2] at z
          simp only at z
          omega
      have HHI : Hid (¬ px < k → ∀ t (y : Pr), h ≤ t → es[t]? = some y → ¬ y.1 < k) := fun hx0 t y ht hy e0 => by
        by_cases e : t = h
        · subst e; rw [hx] at hy; cases hy; exact hx0 e0
        · have z := hpw h t (by omega) (by have := (List.getElem?_eq_some_iff.1 hy).1; omega) (by omega)
          have e1 : es[t]'((List.getElem?_eq_some_iff.1 hy).1) = y := (List.getElem?_eq_some_iff.1 hy).2
          have e2 : es[h]'(by omega) = (px, py) := (List.getElem?_eq_some_iff.1 hx).2
          rw [e1, e2] at z
          simp only at z
          omega
      have HM : Hid (((intOf (Value.int .i64 (j : Int))).toNat - (intOf (Value.int .i64 ((h : Int) + 1))).toNat < (intOf (Value.int .i64 (j : Int))).toNat - (intOf (Value.int .i64 (i : Int))).toNat) ∧ ((intOf (Value.int .i64 (h : Int))).toNat - (intOf (Value.int .i64 (i : Int))).toNat < (intOf (Value.int .i64 (j : Int))).toNat - (intOf (Value.int .i64 (i : Int))).toNat)) := by
        constructor <;> simp [intOf] <;> omega
      simp only at q1 q2
      clear hc1 t1 t2 hx hh hB hpw
      by_cases hb : px < k
      · have hb' : cmpN px k < 0 := hlt3.2 hb
        have HL2 : Hid (∀ t (y : Pr), t < h + 1 → es[t]? = some y → y.1 < k) := HLO.out hb
        clear HLO HHI hb hlt3
        generalize cmpN px k = cv at *
        go_wp2_with (go_at_call 104; refine hcm.mono ?_; clear hcm; rintro e w1 ⟨rfl, hB1⟩; have HB1 : Hid (Below w.heap.size w w1) := H.out.1.trans (hB1.mono H.out.1.size); clear hB1)
        exact ⟨⟨h + 1, j, by omega, hjn, by simp, rfl, HB1.out, HL2.out, H.out.2.2⟩, HM.out.1⟩
      · have hb' : ¬ cmpN px k < 0 := fun e => hb (hlt3.1 e)
        have HL2 : Hid (∀ t (y : Pr), h ≤ t → es[t]? = some y → ¬ y.1 < k) := HHI.out hb
        clear HLO HHI hb hlt3
        generalize cmpN px k = cv at *
        go_wp2_with (go_at_call 104; refine hcm.mono ?_; clear hcm; rintro e w1 ⟨rfl, hB1⟩; have HB1 : Hid (Below w.heap.size w w1) := H.out.1.trans (hB1.mono H.out.1.size); clear hB1)
        exact ⟨⟨i, h, hi, by omega, rfl, rfl, HB1.out, H.out.2.1, HL2.out⟩, HM.out.2⟩
    · obtain rfl : i = j := by omega
      have i1 : ¬ (i : Int) < (i : Int) := by omega
      have hpos : cntP es k = i := cnt_of es k i (by omega) H.out.2.1 H.out.2.2
      have hget := ris_at es k HE.out.2
      rw [hpos] at hget
      obtain rfl : i = P := by rw [HPQ.out.1, hpos]
      have HB : Hid (Below w.heap.size w wr) := H.out.1
      by_cases hin : i < n
      · obtain ⟨x, hx⟩ : ∃ x, es[i]? = some x := ⟨_, List.getElem?_eq_getElem (by omega)⟩
        obtain ⟨b1, o1, rfl, hc1⟩ := hE.2 (by omega)
        obtain ⟨t1, t2⟩ := hc1 i x hx
        have hB := H.out.1
        have q1 := (hB.cell (p := ⟨b1, o1 + i * 2, none⟩) (World.block_lt_of_cell? w _ t1)).trans t1
        have q2 := (hB.cell (p := ⟨b1, o1 + i * 2 + 1, none⟩) (World.block_lt_of_cell? w _ t2)).trans t2
        have i2 : (i : Int) < (n : Int) := by omega
        have i3 : ¬ n ≤ i := by omega
        obtain ⟨px, py⟩ := x
        have hcm := ycmp_any px py k wr
        have hgs : (lookP es k).isSome = (cmpN px k == 0) := by
          rw [cmpN_zero]
          by_cases e : px = k
          · rw [(hget.1 _ hx).1 e, decide_eq_true e]; rfl
          · rw [(hget.1 _ hx).2 e, decide_eq_false e]; rfl
        have hqq : (cmpN px k == 0) = Q := by rw [HPQ.out.2, hgs]
        simp only at q1 q2
        clear hc1 t1 t2 hx hB hget hgs hpos H HPQ
        generalize cmpN px k = cv at *
        go_wp2_with (go_at_call 104; refine hcm.mono ?_; clear hcm; rintro e w1 ⟨rfl, hB1⟩; have HB1 : Hid (Below w.heap.size w w1) := HB.out.trans (hB1.mono HB.out.size); clear hB1)
        go_ret2
        exact ⟨rfl, HB1.out⟩
      · obtain rfl : i = n := by omega
        have hgs : (lookP es k).isSome = false := by
          rw [hget.2 hl.symm]
          rfl
        obtain rfl : Q = false := by rw [HPQ.out.2, hgs]
        clear hget hgs hpos H HPQ
        go_wp2_with fail
        go_ret2
        exact ⟨rfl, HB.out⟩

set_option maxRecDepth 100000 in
set_option maxHeartbeats 1000000 in
theorem yfind_any (w : World) (a : Option Addr) (n c : Nat) (es : List Pr) (hE : Prs w a n es) (hr : Ris es) (k : Nat) (hn : n ≤ 1000000) :
    Calls Tryz.prog 65 #[.slice a n c, .int .u64 (k : Int)] w fun e w' => e = .returned (.tuple #[.int .i64 (cntP es k : Int), .bool (lookP es k).isSome]) ∧ Below w.heap.size w w' := by
  have hb := ybsearch_any w a n c es hE hr k hn
  generalize (cntP es k : Int) = P at *
  generalize (lookP es k).isSome = Q at *
  go_enter Tryz.func65, Tryz.ntmps65
  go_wp2_with (go_at_call 103; refine hb.mono ?_; clear hb; rintro e w1 ⟨rfl, hB1⟩)
  go_ret2
  exact ⟨rfl, hB1⟩
end Go.Proofs.YtdjodigimhgklaaGreatDoor

/- The law's wakes. -/
namespace Go.Proofs.YtdjodigimhgklaaGreatDoor
open Go.RowKit Go.Shelf Go.Maps Go.Lib

attribute [local go_sem] Oper.semAt_some

/-- the bytes that Make answers, as a slice -/
theorem own_slice {w : World} {B n c : Nat} {ad : Option Addr} {l : List UInt8} (h : w.ownsRow B 5 1 (.slice ad n c) n (cellsOf l)) : Bytes w ad n l ∧ (ad = none → n = 0 ∧ c = 0) ∧ n ≤ c := by
  obtain ⟨ad', c', e, h1, h2⟩ := vrow_shape h
  cases e
  exact ⟨vrow_bytes h, h2, h1⟩
def wakeL : List Pr := [(7, 0), (3, 9)]
theorem wake_make {w w' : World} {v : Value} {er : Int} (h : MakeE wakeL w v er w') : er = 0 ∧ ∃ d ad cp, v = .slice ad (runB d).length cp ∧ Bytes w' ad (runB d).length (runB d) ∧ (ad = none → (runB d).length = 0) ∧ (runB d).length ≤ cp ∧ (runB d).length ≤ 100 ∧ pairsR (runB d) = some d ∧ d.length = 2 ∧ lookP d 3 = some 9 := by
  rcases h with ⟨⟨p, hp, h0⟩, _⟩ | ⟨_, h2, _⟩ | ⟨d, ad, cp, hg, hp, _, ho, rfl, rfl, hown⟩
  · simp [wakeL] at hp
    rcases hp with rfl | rfl <;> simp at h0
  · exact absurd (by decide : Once wakeL) h2
  · obtain ⟨h1, h2, h3⟩ := own_slice hown
    refine ⟨rfl, d, ad, cp, rfl, h1, fun e => (h2 e).1, h3, ?_, pairs_runB hg, by rw [hp.length_eq]; rfl, ?_⟩
    · have hl := hp.length_eq
      have : wakeL.length = 2 := rfl
      have := short_len d.length
      rw [runB_len]
      omega
    · rw [look_perm (ho.perm hp.symm) hp 3]
      rfl
end Go.Proofs.YtdjodigimhgklaaGreatDoor

/- A memo in memory; Standin, Len. -/
namespace Go.Proofs.YtdjodigimhgklaaGreatDoor
open Go.RowKit Go.Shelf Go.Maps

attribute [local go_sem] Oper.semAt_some

/-- what a memo says: the key, the runs that count, the greatest number, the pairs, whether an Add failed -/
structure Me where
  key : Nat
  runs : List Nat
  top : Nat
  ps : List Pr
  failed : Bool
abbrev nV (x : Nat) : Value := .int .i64 (x : Int)
/-- a memo in memory: in block m, on disk d, with journal j -/
structure MeAt (w : World) (m d j : Nat) (g : Me) (vr : Value) (pa : Option Addr) (pc : Nat) (F : Nat → Prop) : Prop where
  box : w.heap[m]? = some (.cells #[.pointer (some ⟨d, 0, none⟩), .int .u64 (g.key : Int), .pointer (some ⟨j, 0, none⟩), vr, .int .i64 (g.top : Int), .slice pa g.ps.length pc, .bool g.failed] 91 (0, 0))
  row : w.ownsRow 0 3 1 vr g.runs.length (g.runs.map nV)
  prs : PrV w pa g.ps.length pc g.ps
  ris : Ris g.ps
  ok : PrOk g.ps
  small : g.ps.length ≤ 1000000
  fm : F m
  fr : ∀ k, vr.ownBlock = some k → F k ∧ k ≠ m
  fp : 0 < g.ps.length → ∀ x, pa = some x → F x.block ∧ x.block ≠ m
  lt : ∀ k, F k → k < w.heap.size
theorem MeAt.mlt {w : World} {m d j : Nat} {g : Me} {vr : Value} {pa : Option Addr} {pc : Nat} {F : Nat → Prop} (h : MeAt w m d j g vr pa pc F) : m < w.heap.size := h.lt _ h.fm
theorem PrV.blocks {w w' : World} {a : Option Addr} {n c : Nat} {l : List Pr} (h : PrV w a n c l) (hb : 0 < n → ∀ x, a = some x → w'.heap[x.block]? = w.heap[x.block]?) : PrV w' a n c l := by
  refine ⟨⟨h.prs.1, fun h0 => ?_⟩, h.nil, h.cap⟩
  obtain ⟨b, o, e, hc⟩ := h.prs.2 h0
  have hq := hb h0 _ e
  simp only at hq
  refine ⟨b, o, e, fun j x hx => ?_⟩
  have := hc j x hx
  simpa only [World.cell?, hq] using this
theorem yrow_move {w w' : World} {B n : Nat} {t : TypeId} {v : Value} {xs : List Value} (h : w.ownsRow B t 1 v n xs) (hb : ∀ g, v.ownBlock = some g → w'.heap[g]? = w.heap[g]?) : w'.ownsRow B t 1 v n xs := by
  refine ⟨h.1, ?_⟩
  rcases h.2 with h0 | ⟨g, cap, cur, rfl, h1, h2, h3⟩
  · exact .inl h0
  · exact .inr ⟨g, cap, cur, rfl, h1, by rw [hb g rfl]; exact h2, h3⟩
theorem MeAt.kept {w w' : World} {m d j : Nat} {g : Me} {vr : Value} {pa : Option Addr} {pc : Nat} {F : Nat → Prop} (h : MeAt w m d j g vr pa pc F) (hs : w.heap.size ≤ w'.heap.size) (hk : ∀ k, F k → w'.heap[k]? = w.heap[k]?) : MeAt w' m d j g vr pa pc F where
  box := (hk m h.fm).trans h.box
  row := yrow_move h.row fun k e => hk k (h.fr k e).1
  prs := h.prs.blocks fun h0 x e => hk _ (h.fp h0 x e).1
  ris := h.ris
  ok := h.ok
  small := h.small
  fm := h.fm
  fr := h.fr
  fp := h.fp
  lt := fun k hk => Nat.lt_of_lt_of_le (h.lt k hk) hs
theorem MeAt.below {w w' : World} {m d j : Nat} {g : Me} {vr : Value} {pa : Option Addr} {pc : Nat} {F : Nat → Prop} (h : MeAt w m d j g vr pa pc F) (hB : Below w.heap.size w w') : MeAt w' m d j g vr pa pc F :=
  h.kept hB.size fun k hk => hB.block k (h.lt k hk)
theorem MeAt.turn {w w' : World} {m d j : Nat} {g : Me} {vr : Value} {pa : Option Addr} {pc : Nat} {F X : Nat → Prop} (h : MeAt w m d j g vr pa pc F) (hT : Turn X w w') (hX : ∀ k, F k → ¬ X k) : MeAt w' m d j g vr pa pc F :=
  h.kept hT.size fun k hk => hT.block k (h.lt k hk) (hX k hk)
theorem MeAt.cells {w : World} {m d j : Nat} {g : Me} {vr : Value} {pa : Option Addr} {pc : Nat} {F : Nat → Prop} (h : MeAt w m d j g vr pa pc F) :
    w.cell? ⟨m, 0, none⟩ = some (.pointer (some ⟨d, 0, none⟩)) ∧ w.cell? ⟨m, 1, none⟩ = some (.int .u64 (g.key : Int)) ∧ w.cell? ⟨m, 2, none⟩ = some (.pointer (some ⟨j, 0, none⟩)) ∧ w.cell? ⟨m, 3, none⟩ = some vr ∧ w.cell? ⟨m, 4, none⟩ = some (.int .i64 (g.top : Int)) ∧ w.cell? ⟨m, 5, none⟩ = some (.slice pa g.ps.length pc) ∧ w.cell? ⟨m, 6, none⟩ = some (.bool g.failed) := by
  have hb := h.box
  refine ⟨?_, ?_, ?_, ?_, ?_, ?_, ?_⟩ <;> simp [World.cell?, hb]
theorem MeAt.frozen {w : World} {m d j : Nat} {g : Me} {vr : Value} {pa : Option Addr} {pc : Nat} {F : Nat → Prop} (h : MeAt w m d j g vr pa pc F) (i : Nat) : w.frozen? ⟨m, i, none⟩ = false := by
  have hb := h.box
  simp [World.frozen?, hb]
theorem look_at {l : List Pr} {x y : Nat} (hr : Ris l) (h : lookP l x = some y) : l[cntP l x]? = some (x, y) ∧ cntP l x < l.length := by
  have hle := cntP_le l x
  have hr2 := ris_at l x hr
  by_cases hlt : cntP l x < l.length
  · obtain ⟨p, hp⟩ : ∃ p, l[cntP l x]? = some p := ⟨_, List.getElem?_eq_getElem hlt⟩
    refine ⟨?_, hlt⟩
    by_cases e : p.1 = x
    · have := (hr2.1 p hp).1 e
      rw [h] at this
      cases this
      rw [hp, ← e]
    · have := (hr2.1 p hp).2 e
      rw [h] at this
      cases this
  · have := hr2.2 (by omega)
    rw [h] at this
    cases this

def stdV (o : Option Nat) : Value := .tuple #[.int .u64 ((o.getD 0 : Nat) : Int), .bool o.isSome]
theorem standin_nil (w : World) (c : Nat) : Calls Tryz.prog 27 #[.pointer none, .int .u64 (c : Int)] w fun e w' => e = .returned (stdV none) ∧ w' = w := by
  go_enter Tryz.func27, Tryz.ntmps27
  go_wp2
  go_ret2
  exact ⟨rfl, rfl⟩
set_option maxRecDepth 20000 in
set_option maxHeartbeats 1000000 in
theorem standin_any (w : World) (m d j : Nat) (g : Me) (vr : Value) (pa : Option Addr) (pc : Nat) (F : Nat → Prop) (h : MeAt w m d j g vr pa pc F) (c : Nat) :
    Calls Tryz.prog 27 #[.pointer (some ⟨m, 0, none⟩), .int .u64 (c : Int)] w fun e w' => e = .returned (stdV (lookP g.ps c)) ∧ Below w.heap.size w w' := by
  obtain ⟨_, _, _, _, _, c5, _⟩ := h.cells
  have hf := yfind_any w pa g.ps.length pc g.ps h.prs.prs h.ris c h.small
  have H : Hid (MeAt w m d j g vr pa pc F) := h
  clear h
  cases hlk : lookP g.ps c with
  | none =>
    rw [hlk] at hf
    simp only [Option.isSome_none] at hf
    generalize g.ps.length = N at *
    generalize (cntP g.ps c : Int) = P at *
    go_enter Tryz.func27, Tryz.ntmps27
    go_wp2_with (go_at_call 65; refine hf.mono ?_; clear hf; rintro e w1 ⟨rfl, hB1⟩)
    go_ret2
    exact ⟨rfl, hB1⟩
  | some y =>
    rw [hlk] at hf
    simp only [Option.isSome_some] at hf
    obtain ⟨hat, hlt⟩ := look_at H.out.ris hlk
    obtain ⟨P, hP⟩ : ∃ P, P = cntP g.ps c := ⟨_, rfl⟩
    rw [← hP] at hf hat hlt
    obtain ⟨b1, o1, rfl, hc1⟩ := H.out.prs.prs.2 (by omega)
    have HQ : Hid (∀ W, Below w.heap.size w W → W.cell? ⟨b1, o1 + P * 2 + 1, none⟩ = some (.int .u64 (y : Int)) ∧ W.cell? ⟨m, 5, none⟩ = some (.slice (some ⟨b1, o1, none⟩) g.ps.length pc)) := fun W hW => by
      have t := (hc1 P _ hat).2
      exact ⟨(hW.cell (p := ⟨b1, o1 + P * 2 + 1, none⟩) (World.block_lt_of_cell? w _ t)).trans t, (hW.cell (p := ⟨m, 5, none⟩) (World.block_lt_of_cell? w _ c5)).trans c5⟩
    have i1 : (P : Int) < (g.ps.length : Int) := by omega
    have i2 : ¬ g.ps.length ≤ P := by omega
    clear hc1 hat hP H hlt hlk
    generalize g.ps.length = N at *
    go_enter Tryz.func27, Tryz.ntmps27
    go_wp2_with (go_at_call 65; refine hf.mono ?_; clear hf; rintro e w1 ⟨rfl, hB1⟩; obtain ⟨q1, q2⟩ := HQ.out w1 hB1)
    go_ret2
    exact ⟨rfl, hB1⟩
theorem mlen_nil (w : World) : Calls Tryz.prog 30 #[.pointer none] w fun e w' => e = .returned (.int .i64 0) ∧ w' = w := by
  go_enter Tryz.func30, Tryz.ntmps30
  go_wp2
  go_ret
  exact ⟨rfl, rfl⟩
theorem mlen_any (w : World) (m d j : Nat) (g : Me) (vr : Value) (pa : Option Addr) (pc : Nat) (F : Nat → Prop) (h : MeAt w m d j g vr pa pc F) :
    Calls Tryz.prog 30 #[.pointer (some ⟨m, 0, none⟩)] w fun e w' => e = .returned (nV g.ps.length) ∧ w' = w := by
  obtain ⟨_, _, _, _, _, c5, _⟩ := h.cells
  clear h
  generalize g.ps.length = N at *
  go_enter Tryz.func30, Tryz.ntmps30
  go_wp2
  go_ret
  exact ⟨rfl, rfl⟩
theorem mruns_nil (w : World) : Calls Tryz.prog 31 #[.pointer none] w fun e w' => e = .returned (.slice none 0 0) ∧ w' = w := by
  go_enter Tryz.func31, Tryz.ntmps31
  go_wp2
  go_ret
  exact ⟨rfl, rfl⟩
end Go.Proofs.YtdjodigimhgklaaGreatDoor

/- A memo's record. -/
namespace Go.Proofs.YtdjodigimhgklaaGreatDoor
open Go.RowKit Go.Shelf Go.Maps

attribute [local go_sem] Oper.semAt_some

/-- a slice of numbers -/
def NsV (w : World) (a : Option Addr) (n : Nat) (l : List Nat) : Prop := l.length = n ∧ (0 < n → ∃ b o, a = some ⟨b, o, none⟩ ∧ ∀ (i : Nat) x, l[i]? = some x → w.cell? ⟨b, o + i, none⟩ = some (nV x))
theorem NsV.below {w w' : World} {a : Option Addr} {n : Nat} {l : List Nat} (h : NsV w a n l) (hB : Below w.heap.size w w') : NsV w' a n l :=
  ⟨h.1, fun h0 => by
    obtain ⟨b, o, e, hc⟩ := h.2 h0
    exact ⟨b, o, e, fun i x hx => (hB.cell (p := ⟨b, o + i, none⟩) (World.block_lt_of_cell? w _ (hc i x hx))).trans (hc i x hx)⟩⟩
theorem NsV.blocks {w w' : World} {a : Option Addr} {n : Nat} {l : List Nat} (h : NsV w a n l) (hb : 0 < n → ∀ x, a = some x → w'.heap[x.block]? = w.heap[x.block]?) : NsV w' a n l :=
  ⟨h.1, fun h0 => by
    obtain ⟨b, o, e, hc⟩ := h.2 h0
    have hq := hb h0 _ e
    simp only at hq
    exact ⟨b, o, e, fun i x hx => by have := hc i x hx; simpa only [World.cell?, hq] using this⟩⟩
theorem nrow_shape {w : World} {B n : Nat} {v : Value} {xs : List Value} (h : w.ownsRow B 3 1 v n xs) : ∃ ad c, v = .slice ad n c ∧ n ≤ c ∧ (ad = none → n = 0 ∧ c = 0) := by
  rcases h.2 with ⟨rfl, rfl⟩ | ⟨g, cap, cur, rfl, _, _, hc, _⟩
  · exact ⟨none, 0, rfl, Nat.le_refl _, fun _ => ⟨rfl, rfl⟩⟩
  · exact ⟨_, _, rfl, hc, fun h => by cases h⟩
theorem nrow_ns {w : World} {B n c : Nat} {ad : Option Addr} {l : List Nat} (h : w.ownsRow B 3 1 (.slice ad n c) n (l.map nV)) : NsV w ad n l := by
  have hl : l.length = n := by have := h.1; rw [List.length_map] at this; omega
  refine ⟨hl, fun h0 => ?_⟩
  rcases h.2 with ⟨e, h'⟩ | ⟨g, cap, cur, e, _⟩
  · omega
  · cases e
    refine ⟨g, 0, rfl, fun i x hx => ?_⟩
    have c1 := h.cells (g := g) rfl i (nV x) (by rw [List.getElem?_map, hx]; rfl)
    rw [Addr.add_lit] at c1
    exact c1
theorem nrow_block {W : World} {base n : Nat} {v : Value} {xs : List Value} (h : W.ownsRow base 3 1 v n xs) : ∀ r, v.ownBlock = some r → base ≤ r ∧ r < W.heap.size ∧ ∃ cur, W.heap[r]? = some (.cells cur 3 (0, 0)) := by
  intro r hr
  rcases h.2 with ⟨rfl, _⟩ | ⟨g, cap, cur, rfl, hb, hg, _⟩
  · cases hr
  · cases hr
    exact ⟨hb, (Array.getElem?_eq_some_iff.1 hg).1, cur, hg⟩
/-- the bytes of a record of numbers -/
def numsB : List Nat → List UInt8
  | [] => []
  | x :: r => short x ++ numsB r
def encR (l : List Nat) : List UInt8 := short l.length ++ numsB l
theorem numsB_app : ∀ l m : List Nat, numsB (l ++ m) = numsB l ++ numsB m
  | [], m => rfl
  | x :: r, m => by simp [numsB, numsB_app r m]
theorem numsB_len : ∀ l : List Nat, (numsB l).length ≤ l.length * 10
  | [] => Nat.le_refl _
  | x :: r => by
    have := short_len x
    have := numsB_len r
    simp only [numsB, List.length_append, List.length_cons]
    omega
/-- what encode answers -/
def EncA (w : World) (l : List Nat) (e : Ending) (w' : World) : Prop := ∃ ad cp, e = .returned (.slice ad (encR l).length cp) ∧ Bytes w' ad (encR l).length (encR l) ∧ (∀ x, ad = some x → w.heap.size ≤ x.block) ∧ Below w.heap.size w w'
set_option maxRecDepth 20000 in
set_option maxHeartbeats 2000000 in
theorem encode_any (w : World) (a : Option Addr) (n c : Nat) (l : List Nat) (h : NsV w a n l) (hn : n ≤ 1000000) (hl : ∀ x ∈ l, x ≤ 9223372036854775807) :
    Calls Tryz.prog 89 #[.slice a n c] w (EncA w l) := by
  have hp := putUint_any none 0 0 n [] w ⟨rfl, fun h => by omega⟩ (by omega) (by omega)
  have HN : Hid (l.length = n ∧ ∀ k, (numsB (l.take k)).length ≤ 10000000) := ⟨h.1, fun k => by
    have h1 := numsB_len (l.take k)
    have h2 := h.1
    rw [List.length_take] at h1
    omega⟩
  have H0 : Hid (NsV w a n l) := h
  have hsl := short_len n
  clear h
  go_enter Tryz.func89, Tryz.ntmps89
  go_wp2_with (go_at_call 109; refine hp.mono ?_; clear hp; rintro e w1 ⟨g1, cp1, rfl, ho1, hg1⟩)
  obtain ⟨N1, hN1⟩ : ∃ N1, N1 = (short n).length := ⟨_, rfl⟩
  have H1 : Hid (N1 = (short n ++ numsB (l.take 0)).length ∧ Bytes w1 (some ⟨g1, 0, none⟩) N1 (short n ++ numsB (l.take 0)) ∧ w.heap.size ≤ g1 ∧ Below w.heap.size w w1) := by
    rw [List.take_zero]
    simp only [numsB, List.append_nil]
    refine ⟨hN1, ?_, ?_, vgrown_below hg1⟩
    · have := vrow_bytes ho1
      rw [Nat.zero_add, ← hN1] at this
      exact this
    · exact (vrow_block ho1 g1 rfl).1
  rw [← hN1]
  rw [← hN1] at hsl
  clear ho1 hg1 hN1
  go_loopw [3, 12] (fun v i wr => ∃ (k g cp N : Nat), k ≤ n ∧ v = .slice (some ⟨g, 0, none⟩) N cp ∧ i = .int .i64 (k : Int) ∧ N ≤ 20000000 ∧ Hid (N = (short n ++ numsB (l.take k)).length ∧ Bytes wr (some ⟨g, 0, none⟩) N (short n ++ numsB (l.take k)) ∧ w.heap.size ≤ g ∧ Below w.heap.size w wr)) (fun _ i _ => n - (intOf i).toNat)
  case atStart => exact ⟨0, g1, cp1, N1, Nat.zero_le _, rfl, rfl, by omega, H1.out⟩
  case round =>
    clear H1
    obtain ⟨k, g, cp, N, hk, rfl, rfl, hN, H⟩ := hrel
    by_cases hlt : k < n
    · obtain ⟨x, hx⟩ : ∃ x, l[k]? = some x := ⟨_, List.getElem?_eq_getElem (by rw [HN.out.1]; exact hlt)⟩
      obtain ⟨b1, o1, rfl, hc1⟩ := (H0.out.below H.out.2.2.2).2 (by omega)
      have t1 := hc1 k x hx
      have i1 : (k : Int) < (n : Int) := by omega
      have i2 : ¬ n ≤ k := by omega
      have hxl := hl x (List.mem_of_getElem? hx)
      have hp := putUint_any (some ⟨g, 0, none⟩) N cp x _ wr H.out.2.1 (by omega) (by omega)
      have HT : Hid (numsB (l.take (k + 1)) = numsB (l.take k) ++ short x ∧ (short x).length ≤ 10 ∧ (short n ++ numsB (l.take (k + 1))).length ≤ 20000000) := by
        have e : l.take (k + 1) = l.take k ++ [x] := by rw [List.take_add_one, hx]; rfl
        refine ⟨by rw [e, numsB_app]; simp [numsB], short_len x, ?_⟩
        have := HN.out.2 (k + 1)
        have := short_len n
        rw [List.length_append]
        omega
      clear hc1 hx
      go_wp2_with (go_at_call 109; refine hp.mono ?_; clear hp; rintro e w2 ⟨g2, cp2, rfl, ho2, hg2⟩)
      obtain ⟨N2, hN2⟩ : ∃ N2, N2 = N + (short x).length := ⟨_, rfl⟩
      have H2 : Hid (N2 = (short n ++ numsB (l.take (k + 1))).length ∧ Bytes w2 (some ⟨g2, 0, none⟩) N2 (short n ++ numsB (l.take (k + 1))) ∧ w.heap.size ≤ g2 ∧ Below w.heap.size w w2) := by
        rw [HT.out.1, ← List.append_assoc]
        refine ⟨by rw [hN2, List.length_append, ← H.out.1], ?_, ?_, H.out.2.2.2.trans ((vgrown_below hg2).mono H.out.2.2.2.size)⟩
        · have := vrow_bytes ho2
          rw [← hN2] at this
          exact this
        · have := (vrow_block ho2 g2 rfl).1
          have := H.out.2.2.2.size
          omega
      have hN3 : N2 ≤ 20000000 := by rw [H2.out.1]; exact HT.out.2.2
      rw [← hN2]
      clear ho2 hg2 hN2
      go_wp2
      go_roundw
      case rel => exact ⟨k + 1, g2, cp2, N2, by omega, rfl, by go_num, hN3, H2.out⟩
      case measure => simp [intOf]; omega
    · obtain rfl : k = n := by omega
      have HZ : Hid (N = (encR l).length ∧ Bytes wr (some ⟨g, 0, none⟩) N (encR l) ∧ w.heap.size ≤ g ∧ Below w.heap.size w wr) := by
        have e := H.out
        rw [List.take_of_length_le (by rw [HN.out.1]; exact Nat.le_refl _)] at e
        unfold encR
        rw [HN.out.1]
        exact e
      have i1 : ¬ (k : Int) < (k : Int) := by omega
      clear H
      go_wp2
      go_ret
      obtain ⟨h1, h2, h3, h4⟩ := HZ.out
      subst h1
      exact ⟨some ⟨g, 0, none⟩, cp, rfl, h2, fun x e => by cases e; exact h3, h4⟩
end Go.Proofs.YtdjodigimhgklaaGreatDoor
