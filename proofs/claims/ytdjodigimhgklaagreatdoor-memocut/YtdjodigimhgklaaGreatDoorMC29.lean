import Derived.Test.YtdjodigimhgklaaGreatDoorMC22
import Derived.Test.YtdjodigimhgklaaGreatDoorMC27
import Derived.Test.YtdjodigimhgklaaGreatDoorMC24
import Derived.Test.YtdjodigimhgklaaGreatDoorMC28
import Derived.Test.YtdjodigimhgklaaGreatDoorMC04
/- The walk of Make, and of Check. -/
namespace Go.Proofs.YtdjodigimhgklaaGreatDoor
open Go.RowKit Go.Shelf Go.Maps Go.Lib

attribute [local go_sem] Oper.semAt_some

theorem le_ris {l : List Pr} (h : l.Pairwise fun p q => p.1 ≤ q.1) (ho : Once l) : Ris l := by
  unfold Once at ho
  rw [List.Nodup, List.pairwise_map] at ho
  exact (h.and ho).imp fun ⟨h1, h2⟩ => by omega
theorem Once.perm {l m : List Pr} (h : Once l) (hp : l.Perm m) : Once m := (hp.map _).nodup_iff.1 h
/-- what Make answers: the value, the error, and what the memory holds -/
def MakeE (l : List Pr) (w : World) (v : Value) (er : Int) (w' : World) : Prop :=
  ((∃ p ∈ l, p.1 = 0) ∧ v = .slice none 0 0 ∧ er = 2) ∨ ((∀ p ∈ l, p.1 ≠ 0) ∧ ¬ Once l ∧ v = .slice none 0 0 ∧ er = 5) ∨
    ∃ d ad cp, GoodV d ∧ d.Perm l ∧ (∀ p ∈ l, p.1 ≠ 0) ∧ Once l ∧ v = .slice ad (runB d).length cp ∧ er = 0 ∧ w'.ownsRow w.heap.size 5 1 (.slice ad (runB d).length cp) (runB d).length (cellsOf (runB d))

set_option maxRecDepth 100000 in
set_option maxHeartbeats 4000000 in
theorem make_any (w : World) (a : Option Addr) (n c : Nat) (l : List Pr) (h : Prs w a n l) (hok : PrOk l) (hnil : a = none → n = 0 ∧ c = 0) (hn : n ≤ 65536) :
    Calls Tryz.prog 35 #[.slice a n c] w fun e w' => ∃ v er, e = .returned (.tuple #[v, .int .i64 er]) ∧ MakeE l w v er w' ∧ Below w.heap.size w w' := by
  have hc := vclone_any a n c l w h hnil (by omega)
  have hll := h.1
  have i1 : ¬ (65536 : Int) < (n : Int) := by omega
  clear h hnil
  go_enter Tryz.func35, Tryz.ntmps35
  go_upto_region 5 with first
    | (go_at_call 68; refine hc.mono ?_; clear hc; rintro e w1 ⟨ad, cp, rfl, ho, hB⟩; have H1 : Hid (w1.ownsRow w.heap.size 39 2 (.slice ad n cp) n (prCells l) ∧ Below w.heap.size w w1) := ⟨ho, hB⟩; clear ho hB)
    | (go_at_call 69; refine (vsort_any w1 w.heap.size ad n cp l H1.out.1 hll H1.out.2.size (by omega)).mono ?_; rintro e w2 ⟨rfl, l', hP, hS, hPr, hB⟩; have H2 : Hid (Prs w2 ad n l' ∧ l'.Perm l ∧ (l'.Pairwise fun p q => p.1 ≤ q.1) ∧ Below w.heap.size w w2) := ⟨hPr, hP, hS, H1.out.2.trans hB⟩; clear hP hS hPr hB H1)
  have hri := rises_any w2 ad n cp l' H2.out.1 (by omega)
  have hok' : PrOk l' := hok.perm H2.out.2.1.symm
  have hfo := fun W (hB : Below w2.heap.size w2 W) => vform_any W ad n cp l' (H2.out.1.kept hB) hok' (by omega)
  have HF : Hid (∀ W, Below w2.heap.size w2 W → Calls Tryz.prog 73 #[.slice ad n cp] W fun e w' => ∃ ad cp, e = .returned (.slice ad (runB l').length cp) ∧ w'.ownsRow W.heap.size 5 1 (.slice ad (runB l').length cp) (runB l').length (cellsOf (runB l')) ∧ Below W.heap.size W w') := hfo
  have HO : Hid (PrOk l' ∧ l'.length = n) := ⟨hok', H2.out.1.1⟩
  clear hfo hok' hok
  have key : ∀ b : Bool, b = risF 0 l' → (∀ p ∈ l', p.1 ≠ 0) → (b = true → GoodV l' ∧ Once l) ∧ (b = false → ¬ Once l) := by
    intro b hb hz
    have hle := H2.out.2.2.1
    refine ⟨fun e => ?_, fun e ho => ?_⟩
    · rw [e] at hb
      have := (risF_iff l' 0).1 hb.symm
      exact ⟨⟨HO.out.1, hb.symm, by rw [HO.out.2]; omega⟩, this.1.once.perm H2.out.2.1⟩
    · rw [e] at hb
      have h1 := le_ris hle (ho.perm H2.out.2.1.symm)
      have : risF 0 l' = true := (risF_iff l' 0).2 ⟨h1, fun p hp => by have := hz p hp; omega⟩
      rw [this] at hb
      cases hb
  have HK : Hid (∀ b : Bool, b = risF 0 l' → (∀ p ∈ l', p.1 ≠ 0) → (b = true → GoodV l' ∧ Once l) ∧ (b = false → ¬ Once l)) := key
  clear key
  have tail : (∀ p ∈ l', p.1 ≠ 0) → ∀ b : Bool, b = risF 0 l' → ∀ W, Below w2.heap.size w2 W → (b = false → MakeE l w (.slice none 0 0) 5 W) := fun hz b hb W _ e =>
    .inr (.inl ⟨fun p hp => hz p (H2.out.2.1.mem_iff.2 hp), ((HK.out b hb hz).2 e), rfl, rfl⟩)
  have HT : Hid (∀ W, (∀ p ∈ l', p.1 ≠ 0) → risF 0 l' = false → MakeE l w (.slice none 0 0) 5 W) := fun W hz e =>
    .inr (.inl ⟨fun p hp => hz p (H2.out.2.1.mem_iff.2 hp), ((HK.out _ rfl hz).2 e), rfl, rfl⟩)
  have HG : Hid (∀ W ad cp, (∀ p ∈ l', p.1 ≠ 0) → risF 0 l' = true → W.ownsRow w.heap.size 5 1 (.slice ad (runB l').length cp) (runB l').length (cellsOf (runB l')) → MakeE l w (.slice ad (runB l').length cp) 0 W) := fun W ad cp hz e ho =>
    .inr (.inr ⟨l', ad, cp, ((HK.out _ rfl hz).1 e).1, H2.out.2.1, fun p hp => hz p (H2.out.2.1.mem_iff.2 hp), ((HK.out _ rfl hz).1 e).2, rfl, rfl, ho⟩)
  clear tail HK
  cases hl' : l' with
  | nil =>
    subst hl'
    have h0 : n = 0 := HO.out.2.symm
    subst h0
    have hz : ∀ p ∈ ([] : List Pr), p.1 ≠ 0 := fun p hp => by cases hp
    have HZ : Hid (∀ p ∈ ([] : List Pr), p.1 ≠ 0) := hz
    clear hz
    go_wp2_with first
      | (go_at_call 72; refine hri.mono ?_; clear hri; rintro e w3 ⟨rfl, hB3⟩; have e0 : risF 0 ([] : List Pr) = true := rfl; simp only [e0])
      | (go_at_call 73; refine (HF.out w3 hB3).mono ?_; clear HF; rintro e w4 ⟨ad4, cp4, rfl, ho4, hB4⟩)
    go_ret2
    have hw3 : Below w.heap.size w w3 := H2.out.2.2.2.trans (hB3.mono H2.out.2.2.2.size)
    refine ⟨_, _, rfl, HG.out w4 ad4 cp4 HZ.out rfl ⟨ho4.1, ho4.2.imp id ?_⟩, hw3.trans (hB4.mono hw3.size)⟩
    rintro ⟨g', cap, cur, h1, h2, h3⟩
    exact ⟨g', cap, cur, h1, by have := hw3.size; omega, h3⟩
  | cons p r =>
    obtain ⟨x, y⟩ := p
    have hn0 : 0 < n := by rw [← HO.out.2, hl']; exact Nat.succ_pos _
    obtain ⟨b1, o1, rfl, hc1⟩ := H2.out.1.2 hn0
    obtain ⟨q1, _⟩ := hc1 0 (x, y) (by rw [hl']; rfl)
    simp only [Nat.zero_mul, Nat.add_zero] at q1
    have i2 : (0 : Int) < (n : Int) := by omega
    have HP : Hid (x ≠ 0 → ∀ q ∈ l', q.1 ≠ 0) := fun hx q hq => by
      have hp := H2.out.2.2.1
      rw [hl'] at hq hp
      rcases List.mem_cons.1 hq with rfl | hq
      · exact hx
      · have := (List.pairwise_cons.1 hp).1 q hq
        simp only at this
        omega
    have HM : Hid ((x, y) ∈ l) := (H2.out.2.1.mem_iff.1 (by rw [hl']; exact List.mem_cons_self ..) : (x, y) ∈ l)
    clear hc1
    by_cases hx : x = 0
    · subst hx
      clear hl'
      go_wp2
      go_ret2
      exact ⟨_, _, rfl, .inl ⟨⟨(0, y), HM.out, rfl⟩, rfl, rfl⟩, H2.out.2.2.2⟩
    · have hz := HP.out hx
      have HZ : Hid (∀ q ∈ l', q.1 ≠ 0) := hz
      have i3 : ((x : Int) == 0) = false := by simp; omega
      clear hz hl'
      cases hr : risF 0 l' with
      | false =>
        rw [hr] at hri
        have HR : Hid (risF 0 l' = false) := hr
        clear hr
        go_wp2_with (go_at_call 72; refine hri.mono ?_; clear hri; rintro e w3 ⟨rfl, hB3⟩)
        go_ret2
        exact ⟨_, _, rfl, HT.out w3 HZ.out HR.out, H2.out.2.2.2.trans (hB3.mono H2.out.2.2.2.size)⟩
      | true =>
        rw [hr] at hri
        have HR : Hid (risF 0 l' = true) := hr
        clear hr
        go_wp2_with first
          | (go_at_call 72; refine hri.mono ?_; clear hri; rintro e w3 ⟨rfl, hB3⟩)
          | (go_at_call 73; refine (HF.out w3 hB3).mono ?_; clear HF; rintro e w4 ⟨ad4, cp4, rfl, ho4, hB4⟩)
        go_ret2
        have hw3 : Below w.heap.size w w3 := H2.out.2.2.2.trans (hB3.mono H2.out.2.2.2.size)
        refine ⟨_, _, rfl, HG.out w4 ad4 cp4 HZ.out HR.out ⟨ho4.1, ho4.2.imp id ?_⟩, hw3.trans (hB4.mono hw3.size)⟩
        rintro ⟨g', cap, cur, h1, h2, h3⟩
        exact ⟨g', cap, cur, h1, by have := hw3.size; omega, h3⟩

/-- Check -/
theorem vcheck_any (w : World) (a : Option Addr) (n c : Nat) (b : List UInt8) (hb : Bytes w a n b) (hnil : a = none → n = 0) (hcap : n ≤ c) (hn : n ≤ 1000000000) :
    Calls Tryz.prog 80 #[.slice a n c] w fun e w' => ∃ k er : Int, e = .returned (.tuple #[.int .i64 k, .int .i64 er]) ∧ ((pairsR b = none ∧ k = 0 ∧ er = 8) ∨ ∃ l, pairsR b = some l ∧ k = (l.length : Int) ∧ er = 0) ∧ Below w.heap.size w w' := by
  have hp := pairs_any w a n c b hb hnil hcap hn
  go_enter Tryz.func80, Tryz.ntmps80
  go_wp2_with fail
  refine hp.mono ?_
  rintro e w1 ⟨v, er, rfl, hE, hB⟩
  rcases hE with ⟨h1, rfl, rfl⟩ | ⟨l, G, h1, rfl, rfl, _, _⟩
  · go_wp2
    go_ret2
    exact ⟨0, 8, rfl, .inl ⟨h1, rfl, rfl⟩, hB⟩
  · go_wp2
    go_ret2
    exact ⟨_, 0, rfl, .inr ⟨l, h1, rfl, rfl⟩, hB⟩
end Go.Proofs.YtdjodigimhgklaaGreatDoor

/- The walk of Sources. -/
namespace Go.Proofs.YtdjodigimhgklaaGreatDoor
open Go.RowKit Go.Shelf Go.Maps

attribute [local go_sem] Oper.semAt_some

theorem infoIdV : (Tryz.prog.info? 23).map (fun i => (i.zero, i.size, i.bytes)) = some (some (.int .u64 0), 1, 8) := by kernel_rfl
/-- the Froms of the pairs that lead to t -/
def srcL (l : List Pr) (t : Nat) : List Nat := (l.filter fun p => p.2 == t).map (·.1)
theorem srcL_app (l m : List Pr) (t : Nat) : srcL (l ++ m) t = srcL l t ++ srcL m t := by simp [srcL]
theorem srcL_len (l : List Pr) (t : Nat) : (srcL l t).length ≤ l.length := by
  unfold srcL
  rw [List.length_map]
  exact List.length_filter_le _ _
abbrev idV (x : Nat) : Value := .int .u64 (x : Int)
/-- what stands while ids are gathered in box F -/
def SrcI (F t : Nat) (w3 : World) (pre : List Pr) (W : World) : Prop :=
  Turn (fun k => k = F) w3 W ∧ pre.length ≤ 65536 ∧ ∃ v, Boxed W F 47 v ∧ W.ownsRow w3.heap.size 23 1 v (srcL pre t).length ((srcL pre t).map idV)
theorem srcI_own (F t : Nat) (w3 : World) (hF : F < w3.heap.size) : OwnFrom w3.heap.size (SrcI F t w3) := by
  rintro pre X Y row ⟨hT, hp, v, h3, h4⟩ hgr hr
  refine ⟨vturn_own (β := List Pr) pre X Y row hT hgr hr, hp, v, h3.kept hgr (fun e => by have := (hr F e.symm).1; omega), irow_moved h4 (fun q hq => ?_)⟩
  obtain ⟨_, hlt, cur, hc⟩ := irow_block h4 q hq
  refine hgr.block q hlt (fun e => ?_)
  obtain ⟨_, o, ho, hoc⟩ := hr q e.symm
  rw [hc] at ho
  cases ho
  cases hoc

end Go.Proofs.YtdjodigimhgklaaGreatDoor

/- The walk of Find: by sort.Search. -/
namespace Go.Proofs.YtdjodigimhgklaaGreatDoor
open Go.RowKit Go.Shelf Go.Maps Go.Lib

attribute [local go_sem] Oper.semAt_some

/-- how many Froms are less -/
def cntP (l : List Pr) (x : Nat) : Nat := l.countP fun p => !decide (x ≤ p.1)
theorem cntP_le (l : List Pr) (x : Nat) : cntP l x ≤ l.length := List.countP_le_length
theorem ris_at : ∀ (l : List Pr) (x : Nat), Ris l → (∀ p, l[cntP l x]? = some p → (p.1 = x → lookP l x = some p.2) ∧ (p.1 ≠ x → lookP l x = none)) ∧ (cntP l x = l.length → lookP l x = none)
  | [], x, _ => ⟨fun p hp => by simp at hp, fun _ => rfl⟩
  | q :: r, x, h => by
    have h' := List.pairwise_cons.1 h
    by_cases hq : q.1 < x
    · have ih := ris_at r x h'.2
      have e : cntP (q :: r) x = cntP r x + 1 := by
        unfold cntP
        rw [List.countP_cons_of_pos (by simp; omega)]
      have e2 : lookP (q :: r) x = lookP r x := by rw [lookP, if_neg (by omega)]
      rw [e, e2]
      exact ⟨fun p hp => ih.1 p (by simpa using hp), fun hl => ih.2 (by simpa using hl)⟩
    · have e0 : cntP r x = 0 := by
        unfold cntP
        rw [List.countP_eq_zero]
        intro p hp
        have := h'.1 p hp
        simp; omega
      have e : cntP (q :: r) x = 0 := by
        unfold cntP at e0 ⊢
        rw [List.countP_cons_of_neg (by simp; omega), e0]
      rw [e]
      refine ⟨fun p hp => ?_, fun hl => by simp at hl⟩
      simp at hp
      subst hp
      refine ⟨fun hx => by rw [lookP, if_pos hx], fun hx => ?_⟩
      rw [lookP, if_neg hx]
      exact (look_none r x).2 fun p hp => by have := h'.1 p hp; omega
def findR (b : List UInt8) (x : Nat) : Int × Int := match pairsR b with
  | none => (0, 8)
  | some l => match lookP l x with
    | none => (0, 4)
    | some y => ((y : Int), 0)
theorem findR_bad {b : List UInt8} (x : Nat) (h : pairsR b = none) : findR b x = (0, 8) := by unfold findR; rw [h]
theorem findR_none {b : List UInt8} {l : List Pr} {x : Nat} (h : pairsR b = some l) (h2 : lookP l x = none) : findR b x = (0, 4) := by unfold findR; rw [h]; simp only [h2]
theorem findR_some {b : List UInt8} {l : List Pr} {x y : Nat} (h : pairsR b = some l) (h2 : lookP l x = some y) : findR b x = ((y : Int), 0) := by unfold findR; rw [h]; simp only [h2]

end Go.Proofs.YtdjodigimhgklaaGreatDoor

/- The memo's search among pairs that rise. -/
namespace Go.Proofs.YtdjodigimhgklaaGreatDoor
open Go.RowKit Go.Shelf Go.Maps

attribute [local go_sem] Oper.semAt_some

theorem cmpN_neg (x y : Nat) : cmpN x y < 0 ↔ x < y := by unfold cmpN; split <;> (try split) <;> omega
theorem cmpN_zero (x y : Nat) : (cmpN x y == 0) = decide (x = y) := by
  unfold cmpN
  by_cases h1 : x < y
  · rw [if_pos h1, decide_eq_false (by omega)]; rfl
  · rw [if_neg h1]
    by_cases h2 : y < x
    · rw [if_pos h2, decide_eq_false (by omega)]; rfl
    · rw [if_neg h2, decide_eq_true (by omega)]; rfl
theorem cnt_of : ∀ (l : List Pr) (x i : Nat), i ≤ l.length → (∀ t p, t < i → l[t]? = some p → p.1 < x) → (∀ t p, i ≤ t → l[t]? = some p → ¬ p.1 < x) → cntP l x = i
  | [], x, i, hi, _, _ => by
    obtain rfl : i = 0 := by simpa using hi
    rfl
  | q :: r, x, 0, _, _, h2 => by
    unfold cntP
    rw [List.countP_eq_zero]
    intro p hp
    obtain ⟨t, ht⟩ := List.mem_iff_getElem?.1 hp
    have := h2 t p (Nat.zero_le _) ht
    simp
    omega
  | q :: r, x, i + 1, hi, h1, h2 => by
    have h0 := h1 0 q (by omega) rfl
    have ih := cnt_of r x i (by simpa using hi) (fun t p ht hp => h1 (t + 1) p (by omega) (by simpa using hp)) (fun t p ht hp => h2 (t + 1) p (by omega) (by simpa using hp))
    unfold cntP at ih ⊢
    rw [List.countP_cons_of_pos (by simp; omega), ih]
theorem ycmp_any (x y k : Nat) (w : World) : Calls Tryz.prog 104 #[.agg #[.int .u64 (x : Int), .int .u64 (y : Int)], .int .u64 (k : Int)] w fun e w' => e = .returned (.int .i64 (cmpN x k)) ∧ Below w.heap.size w w' := by
  have hc := fun W => compare_any x k W
  have hBa : Below w.heap.size w (w.alloc (.cells #[.int .u64 (x : Int), .int .u64 (y : Int)] 39)) := (Below.refl _ w).alloc (Nat.le_refl _) _
  generalize cmpN x k = cv at *
  go_enter Tryz.func104, Tryz.ntmps104
  go_wp2_with (go_at_call 71; refine (hc _).mono ?_; clear hc; rintro e w1 ⟨rfl, h1⟩; subst h1)
  go_ret
  exact ⟨rfl, hBa⟩

set_option maxRecDepth 100000 in
set_option maxHeartbeats 4000000 in
theorem ybsearch_any (w : World) (a : Option Addr) (n c : Nat) (es : List Pr) (hE : Prs w a n es) (hr : Ris es) (k : Nat) (hn : n ≤ 1000000) :
    Calls Tryz.prog 103 #[.slice a n c, .int .u64 (k : Int), .func (.func 104) #[] #[]] w fun e w' => e = .returned (.tuple #[.int .i64 (cntP es k : Int), .bool (lookP es k).isSome]) ∧ Below w.heap.size w w' := by
  have hl := hE.1
  obtain ⟨P, hP⟩ : ∃ P, P = cntP es k := ⟨_, rfl⟩
  obtain ⟨Q, hQ⟩ : ∃ Q, Q = (lookP es k).isSome := ⟨_, rfl⟩
  rw [← hP, ← hQ]
  have HPQ : Hid (P = cntP es k ∧ Q = (lookP es k).isSome) := ⟨hP, hQ⟩
  have HE : Hid (Prs w a n es ∧ Ris es) := ⟨hE, hr⟩
  clear hr hP hQ
  go_enter Tryz.func103, Tryz.ntmps103
  go_wp2
  go_loopw [9, 10] (fun v9 v10 wr => ∃ (i j : Nat), i ≤ j ∧ j ≤ n ∧ v9 = .int .i64 (i : Int) ∧ v10 = .int .i64 (j : Int) ∧ Hid (Below w.heap.size w wr ∧ (∀ t (p : Pr), t < i → es[t]? = some p → p.1 < k) ∧ (∀ t (p : Pr), j ≤ t → es[t]? = some p → ¬ p.1 < k))) (fun v9 v10 _ => (intOf v10).toNat - (intOf v9).toNat)
  case atStart => exact ⟨0, n, Nat.zero_le _, Nat.le_refl _, rfl, rfl, Below.refl _ _, fun t x h => by omega, fun t x h hx => by have := (List.getElem?_eq_some_iff.1 hx).1; omega⟩
  case round =>
    obtain ⟨i, j, hij, hjn, rfl, rfl, H⟩ := hrel
    by_cases hlt : i < j
    · have i1 : (i : Int) < (j : Int) := by omega
      obtain ⟨h, hh⟩ : ∃ h, h = (i + j) / 2 := ⟨_, rfl⟩
      have eh : ((i : Int) + (j : Int)) / 2 = (h : Int) := by omega
      have hi : i ≤ h := by omega
      have hj : h < j := by omega
      obtain ⟨x, hx⟩ : ∃ x, es[h]? = some x := ⟨_, List.getElem?_eq_getElem (by omega)⟩
      obtain ⟨b1, o1, rfl, hc1⟩ := hE.2 (by omega)
      obtain ⟨t1, t2⟩ := hc1 h x hx
      have hB := H.out.1
      have q1 := (hB.cell (p := ⟨b1, o1 + h * 2, none⟩) (World.block_lt_of_cell? w _ t1)).trans t1
      have q2 := (hB.cell (p := ⟨b1, o1 + h * 2 + 1, none⟩) (World.block_lt_of_cell? w _ t2)).trans t2
      have i2 : (h : Int) < (n : Int) := by omega
      have i3 : ¬ n ≤ h := by omega
      obtain ⟨px, py⟩ := x
      have hcm := ycmp_any px py k wr
      have hlt3 := cmpN_neg px k
      have hpw := List.pairwise_iff_getElem.1 HE.out.2
      have HLO : Hid (px < k → ∀ t (y : Pr), t < h + 1 → es[t]? = some y → y.1 < k) := fun hx0 t y ht hy => by
        by_cases e : t = h
        · subst e; rw [hx] at hy; cases hy; exact hx0
        · have z := hpw t h (by have := (List.getElem?_eq_some_iff.1 hy).1; omega) (by omega) (by omega)
          have e1 : es[t]'(by omega) = y := (List.getElem?_eq_some_iff.1 hy).2
          have e2 : es[h]'(by omega) = (px, py) := (List.getElem?_eq_some_iff.1 hx).2
          rw [e1, e2] at z
          simp only at z
          omega
      have HHI : Hid (¬ px < k → ∀ t (y : Pr), h ≤ t → es[t]? = some y → ¬ y.1 < k) := fun hx0 t y ht hy e0 => by
        by_cases e : t = h
        · subst e; rw [hx] at hy; cases hy; exact hx0 e0
        · have z := hpw h t (by omega) (by have := (List.getElem?_eq_some_iff.1 hy).1; omega) (by omega)
          have e1 : es[t]'((List.getElem?_eq_some_iff.1 hy).1) = y := (List.getElem?_eq_some_iff.1 hy).2
          have e2 : es[h]'(by omega) = (px, py) := (List.getElem?_eq_some_iff.1 hx).2
          rw [e1, e2] at z
          simp only at z
          omega
      have HM : Hid (((intOf (Value.int .i64 (j : Int))).toNat - (intOf (Value.int .i64 ((h : Int) + 1))).toNat < (intOf (Value.int .i64 (j : Int))).toNat - (intOf (Value.int .i64 (i : Int))).toNat) ∧ ((intOf (Value.int .i64 (h : Int))).toNat - (intOf (Value.int .i64 (i : Int))).toNat < (intOf (Value.int .i64 (j : Int))).toNat - (intOf (Value.int .i64 (i : Int))).toNat)) := by
        constructor <;> simp [intOf] <;> omega
      simp only at q1 q2
      clear hc1 t1 t2 hx hh hB hpw
      by_cases hb : px < k
      · have hb' : cmpN px k < 0 := hlt3.2 hb
        have HL2 : Hid (∀ t (y : Pr), t < h + 1 → es[t]? = some y → y.1 < k) := HLO.out hb
        clear HLO HHI hb hlt3
        generalize cmpN px k = cv at *
        go_wp2_with (go_at_call 104; refine hcm.mono ?_; clear hcm; rintro e w1 ⟨rfl, hB1⟩; have HB1 : Hid (Below w.heap.size w w1) := H.out.1.trans (hB1.mono H.out.1.size); clear hB1)
        exact ⟨⟨h + 1, j, by omega, hjn, by simp, rfl, HB1.out, HL2.out, H.out.2.2⟩, HM.out.1⟩
      · have hb' : ¬ cmpN px k < 0 := fun e => hb (hlt3.1 e)
        have HL2 : Hid (∀ t (y : Pr), h ≤ t → es[t]? = some y → ¬ y.1 < k) := HHI.out hb
        clear HLO HHI hb hlt3
        generalize cmpN px k = cv at *
        go_wp2_with (go_at_call 104; refine hcm.mono ?_; clear hcm; rintro e w1 ⟨rfl, hB1⟩; have HB1 : Hid (Below w.heap.size w w1) := H.out.1.trans (hB1.mono H.out.1.size); clear hB1)
        exact ⟨⟨i, h, hi, by omega, rfl, rfl, HB1.out, H.out.2.1, HL2.out⟩, HM.out.2⟩
    · obtain rfl : i = j := by omega
      have i1 : ¬ (i : Int) < (i : Int) := by omega
      have hpos : cntP es k = i := cnt_of es k i (by omega) H.out.2.1 H.out.2.2
      have hget := ris_at es k HE.out.2
      rw [hpos] at hget
      obtain rfl : i = P := by rw [HPQ.out.1, hpos]
      have HB : Hid (Below w.heap.size w wr) := H.out.1
      by_cases hin : i < n
      · obtain ⟨x, hx⟩ : ∃ x, es[i]? = some x := ⟨_, List.getElem?_eq_getElem (by omega)⟩
        obtain ⟨b1, o1, rfl, hc1⟩ := hE.2 (by omega)
        obtain ⟨t1, t2⟩ := hc1 i x hx
        have hB := H.out.1
        have q1 := (hB.cell (p := ⟨b1, o1 + i * 2, none⟩) (World.block_lt_of_cell? w _ t1)).trans t1
        have q2 := (hB.cell (p := ⟨b1, o1 + i * 2 + 1, none⟩) (World.block_lt_of_cell? w _ t2)).trans t2
        have i2 : (i : Int) < (n : Int) := by omega
        have i3 : ¬ n ≤ i := by omega
        obtain ⟨px, py⟩ := x
        have hcm := ycmp_any px py k wr
        have hgs : (lookP es k).isSome = (cmpN px k == 0) := by
          rw [cmpN_zero]
          by_cases e : px = k
          · rw [(hget.1 _ hx).1 e, decide_eq_true e]; rfl
          · rw [(hget.1 _ hx).2 e, decide_eq_false e]; rfl
        have hqq : (cmpN px k == 0) = Q := by rw [HPQ.out.2, hgs]
        simp only at q1 q2
        clear hc1 t1 t2 hx hB hget hgs hpos H HPQ
        generalize cmpN px k = cv at *
        go_wp2_with (go_at_call 104; refine hcm.mono ?_; clear hcm; rintro e w1 ⟨rfl, hB1⟩; have HB1 : Hid (Below w.heap.size w w1) := HB.out.trans (hB1.mono HB.out.size); clear hB1)
        go_ret2
        exact ⟨rfl, HB1.out⟩
      · obtain rfl : i = n := by omega
        have hgs : (lookP es k).isSome = false := by
          rw [hget.2 hl.symm]
          rfl
        obtain rfl : Q = false := by rw [HPQ.out.2, hgs]
        clear hget hgs hpos H HPQ
        go_wp2_with fail
        go_ret2
        exact ⟨rfl, HB.out⟩

set_option maxRecDepth 100000 in
set_option maxHeartbeats 1000000 in
theorem yfind_any (w : World) (a : Option Addr) (n c : Nat) (es : List Pr) (hE : Prs w a n es) (hr : Ris es) (k : Nat) (hn : n ≤ 1000000) :
    Calls Tryz.prog 65 #[.slice a n c, .int .u64 (k : Int)] w fun e w' => e = .returned (.tuple #[.int .i64 (cntP es k : Int), .bool (lookP es k).isSome]) ∧ Below w.heap.size w w' := by
  have hb := ybsearch_any w a n c es hE hr k hn
  generalize (cntP es k : Int) = P at *
  generalize (lookP es k).isSome = Q at *
  go_enter Tryz.func65, Tryz.ntmps65
  go_wp2_with (go_at_call 103; refine hb.mono ?_; clear hb; rintro e w1 ⟨rfl, hB1⟩)
  go_ret2
  exact ⟨rfl, hB1⟩
end Go.Proofs.YtdjodigimhgklaaGreatDoor

/- The law's wakes. -/
namespace Go.Proofs.YtdjodigimhgklaaGreatDoor
open Go.RowKit Go.Shelf Go.Maps Go.Lib

attribute [local go_sem] Oper.semAt_some

/-- the bytes that Make answers, as a slice -/
theorem own_slice {w : World} {B n c : Nat} {ad : Option Addr} {l : List UInt8} (h : w.ownsRow B 5 1 (.slice ad n c) n (cellsOf l)) : Bytes w ad n l ∧ (ad = none → n = 0 ∧ c = 0) ∧ n ≤ c := by
  obtain ⟨ad', c', e, h1, h2⟩ := vrow_shape h
  cases e
  exact ⟨vrow_bytes h, h2, h1⟩
def wakeL : List Pr := [(7, 0), (3, 9)]
theorem wake_make {w w' : World} {v : Value} {er : Int} (h : MakeE wakeL w v er w') : er = 0 ∧ ∃ d ad cp, v = .slice ad (runB d).length cp ∧ Bytes w' ad (runB d).length (runB d) ∧ (ad = none → (runB d).length = 0) ∧ (runB d).length ≤ cp ∧ (runB d).length ≤ 100 ∧ pairsR (runB d) = some d ∧ d.length = 2 ∧ lookP d 3 = some 9 := by
  rcases h with ⟨⟨p, hp, h0⟩, _⟩ | ⟨_, h2, _⟩ | ⟨d, ad, cp, hg, hp, _, ho, rfl, rfl, hown⟩
  · simp [wakeL] at hp
    rcases hp with rfl | rfl <;> simp at h0
  · exact absurd (by decide : Once wakeL) h2
  · obtain ⟨h1, h2, h3⟩ := own_slice hown
    refine ⟨rfl, d, ad, cp, rfl, h1, fun e => (h2 e).1, h3, ?_, pairs_runB hg, by rw [hp.length_eq]; rfl, ?_⟩
    · have hl := hp.length_eq
      have : wakeL.length = 2 := rfl
      have := short_len d.length
      rw [runB_len]
      omega
    · rw [look_perm (ho.perm hp.symm) hp 3]
      rfl
end Go.Proofs.YtdjodigimhgklaaGreatDoor
