import Derived.Test.YtfkepoibgmljkaaB21
import Derived.Test.YtfkepoibgmljkaaB28
/- The walk of Find: by sort.Search. -/
namespace Go.Proofs.Ytfkepoibgmljkaa
open Go.RowKit Go.Shelf Go.Maps Go.Lib

attribute [local go_sem] Oper.semAt_some

/-- how many Froms are less -/
def cntP (l : List Pr) (x : Nat) : Nat := l.countP fun p => !decide (x ≤ p.1)
theorem cntP_le (l : List Pr) (x : Nat) : cntP l x ≤ l.length := List.countP_le_length
theorem ris_at : ∀ (l : List Pr) (x : Nat), Ris l → (∀ p, l[cntP l x]? = some p → (p.1 = x → lookP l x = some p.2) ∧ (p.1 ≠ x → lookP l x = none)) ∧ (cntP l x = l.length → lookP l x = none)
  | [], x, _ => ⟨fun p hp => by simp at hp, fun _ => rfl⟩
  | q :: r, x, h => by
    have h' := List.pairwise_cons.1 h
    by_cases hq : q.1 < x
    · have ih := ris_at r x h'.2
      have e : cntP (q :: r) x = cntP r x + 1 := by
        unfold cntP
        rw [List.countP_cons_of_pos (by simp; omega)]
      have e2 : lookP (q :: r) x = lookP r x := by rw [lookP, if_neg (by omega)]
      rw [e, e2]
      exact ⟨fun p hp => ih.1 p (by simpa using hp), fun hl => ih.2 (by simpa using hl)⟩
    · have e0 : cntP r x = 0 := by
        unfold cntP
        rw [List.countP_eq_zero]
        intro p hp
        have := h'.1 p hp
        simp; omega
      have e : cntP (q :: r) x = 0 := by
        unfold cntP at e0 ⊢
        rw [List.countP_cons_of_neg (by simp; omega), e0]
      rw [e]
      refine ⟨fun p hp => ?_, fun hl => by simp at hl⟩
      simp at hp
      subst hp
      refine ⟨fun hx => by rw [lookP, if_pos hx], fun hx => ?_⟩
      rw [lookP, if_neg hx]
      exact (look_none r x).2 fun p hp => by have := h'.1 p hp; omega
def findR (b : List UInt8) (x : Nat) : Int × Int := match pairsR b with
  | none => (0, 8)
  | some l => match lookP l x with
    | none => (0, 4)
    | some y => ((y : Int), 0)
theorem findR_bad {b : List UInt8} (x : Nat) (h : pairsR b = none) : findR b x = (0, 8) := by unfold findR; rw [h]
theorem findR_none {b : List UInt8} {l : List Pr} {x : Nat} (h : pairsR b = some l) (h2 : lookP l x = none) : findR b x = (0, 4) := by unfold findR; rw [h]; simp only [h2]
theorem findR_some {b : List UInt8} {l : List Pr} {x y : Nat} (h : pairsR b = some l) (h2 : lookP l x = some y) : findR b x = ((y : Int), 0) := by unfold findR; rw [h]; simp only [h2]

set_option maxHeartbeats 2000000 in
/-- the closure -/
theorem findc_any (ba bx G n x y i : Nat) (W : World) (hi : i < n)
    (ha : W.cell? ⟨ba, 0, none⟩ = some (.slice (some ⟨G, 0, none⟩) n n)) (hx : W.cell? ⟨bx, 0, none⟩ = some (.int .u64 (x : Int))) (hc : W.cell? ⟨G, i * 2, none⟩ = some (.int .u64 (y : Int))) :
    Calls Try.prog 32 (#[.int .i64 (i : Int)] ++ #[.pointer (some ⟨ba, 0, none⟩), .pointer (some ⟨bx, 0, none⟩)]) W fun e w' => e = .returned (.bool (decide (x ≤ y))) ∧ ∃ q, w' = W.drewN q := by
  have hiz : (i : Int) < (n : Int) := by omega
  go_enter Try.func32, Try.ntmps32
  go_wp2
  go_region
  all_goals go_wp2
  all_goals go_ret
  all_goals exact ⟨by first | rfl | simp, 1, rfl⟩

set_option maxRecDepth 100000 in
set_option maxHeartbeats 4000000 in
theorem find_any (w : World) (a : Option Addr) (n c x : Nat) (b : List UInt8) (hb : Bytes w a n b) (hnil : a = none → n = 0) (hcap : n ≤ c) (hn : n ≤ 1000000000) :
    Calls Try.prog 14 #[.slice a n c, .int .u64 (x : Int)] w fun e w' => e = .returned (.tuple #[.int .u64 (findR b x).1, .int .i64 (findR b x).2]) ∧ Below w.heap.size w w' := by
  have hmx : Try.prog.follows .mixedOrders = true := by kernel_rfl
  have hB0 : Below w.heap.size w (w.alloc (.cells #[.int .u64 (x : Int)] 30)) := (Below.refl _ w).alloc (Nat.le_refl _) _
  have hbx : Boxed (w.alloc (.cells #[.int .u64 (x : Int)] 30)) w.heap.size 30 (.int .u64 (x : Int)) := Boxed.new w _ _
  have hp := pairs_any _ a n c b (vbytes_below hb hB0) hnil hcap hn
  have H0 : Hid (Below w.heap.size w (w.alloc (.cells #[.int .u64 (x : Int)] 30)) ∧ Boxed (w.alloc (.cells #[.int .u64 (x : Int)] 30)) w.heap.size 30 (.int .u64 (x : Int))) := ⟨hB0, hbx⟩
  clear hB0 hbx hb hnil
  go_enter Try.func14, Try.ntmps14
  go_wp2_with fail
  refine hp.mono ?_
  clear hp
  rintro e w1 ⟨v, er, rfl, hE, hB⟩
  have hlt0 := H0.out.2.lt
  have H1 : Hid (Below w.heap.size w w1 ∧ Boxed w1 w.heap.size 30 (.int .u64 (x : Int))) := ⟨H0.out.1.trans (hB.mono H0.out.1.size), (hB.block _ hlt0).trans H0.out.2⟩
  clear hB H0 hlt0
  generalize hbx : w.heap.size = bx at *
  have HX : Hid (w.heap.size = bx) := hbx
  clear hbx
  rcases hE with ⟨h1, rfl, rfl⟩ | ⟨l, G, h1, rfl, rfl, _, hR⟩
  · have HF : Hid (findR b x = (0, 8)) := findR_bad x h1
    clear h1
    go_wp2
    go_ret2
    exact ⟨by rw [HF.out]; rfl, by rw [HX.out]; exact H1.out.1.alloc (by have := H1.out.1.size; have := HX.out; omega) _⟩
  · have hgood := (pairs_good h1).1
    have hG := hR.lt
    have hris := ((risF_iff l 0).1 hgood.ris).1
    have hat := ris_at l x hris
    have hcle := cntP_le l x
    have hlen := hgood.len
    obtain ⟨W0, hW0⟩ : ∃ W0, W0 = w1.alloc (.cells #[.slice (some ⟨G, 0, none⟩) l.length l.length] 25) := ⟨_, rfl⟩
    have hB2 : Below w1.heap.size w1 W0 := by rw [hW0]; exact (Below.refl _ w1).alloc (Nat.le_refl _) _
    have hsz : W0.heap.size = w1.heap.size + 1 := by rw [hW0]; simp
    have hbs : Boxed W0 w1.heap.size 25 (.slice (some ⟨G, 0, none⟩) l.length l.length) := by rw [hW0]; exact Boxed.new w1 _ _
    have hbx2 : Boxed W0 bx 30 (.int .u64 (x : Int)) := (hB2.block _ H1.out.2.lt).trans H1.out.2
    have hR2 : RowV W0 G l := hR.below hB2 hG
    have hxl := hbx2.lt
    have hGl := hR2.lt
    have hsl := hbs.lt
    have eg : ∀ args w, (callFunc 32 args).run Try.prog w = .ok (.enter 32 args) w := enters_of Try.func32 (by kernel_rfl) rfl
    have hS := Any.sort_Search Try.searchV 32 #[.pointer (some ⟨w1.heap.size, 0, none⟩), .pointer (some ⟨bx, 0, none⟩)] l.length (fun i => decide (x ≤ (l.toArray[i]! : Pr).1)) W0 eg (by omega)
      (fun m os i hi => (findc_any w1.heap.size bx G l.length x (l.toArray[i]! : Pr).1 i _ hi (cell_grown hsl hbs.cell m os) (cell_grown hxl hbx2.cell m os) (cell_grown hGl (by have := (hR2.cell (List.getElem?_eq_getElem hi)).1; rw [getV! (List.getElem?_eq_getElem hi)]; exact this) m os)).mono
        fun _ _ ⟨he, q, hq⟩ => ⟨he, q, #[], by rw [hq, Sort.grow_empty]⟩)
      (fun i j hij hj h => by
        have hi' : i < l.length := by omega
        rw [getV! (List.getElem?_eq_getElem hi')] at h
        rw [getV! (List.getElem?_eq_getElem hj)]
        rw [decide_eq_true_eq] at h ⊢
        rcases Nat.lt_or_eq_of_le hij with hlt | heq
        · have := List.pairwise_iff_getElem.1 hris i j hi' hj hlt
          omega
        · subst heq; exact h)
    have ecnt : (List.range l.length).countP (fun i => !decide (x ≤ (l.toArray[i]! : Pr).1)) = cntP l x := by
      have := Lib.countP_range l.toArray (fun p => !decide (x ≤ p.1))
      simp only [List.size_toArray] at this
      rw [this]
      rfl
    rw [ecnt] at hS
    change Calls Try.prog 31 _ _ _ at hS
    have HD : Hid (pairsR b = some l ∧ Below bx w W0 ∧ bx ≤ W0.heap.size) := ⟨h1, by have := H1.out.1; exact this.trans (hB2.mono (by have := H1.out.2.lt; omega)), by omega⟩
    have HA : Hid ((∀ p, l[cntP l x]? = some p → (p.1 = x → lookP l x = some p.2) ∧ (p.1 ≠ x → lookP l x = none)) ∧ (cntP l x = l.length → lookP l x = none)) := hat
    have HW : Hid (Boxed W0 w1.heap.size 25 (.slice (some ⟨G, 0, none⟩) l.length l.length) ∧ Boxed W0 bx 30 (.int .u64 (x : Int)) ∧ RowV W0 G l) := ⟨hbs, hbx2, hR2⟩
    clear ecnt eg hris hgood hat h1 hR hG H1 hbs hbx2 hR2 hB2 hxl hGl hsl hsz
    generalize hcn : cntP l x = cn at *
    go_upto_region 5 with (go_at_call 31; rw [← hW0]; refine hS.mono ?_; clear hS; rintro e w2 ⟨rfl, q, os, hw2⟩; have HW2 : Hid (w2 = Sort.grow (W0.drewN q) os) := hw2; clear hw2)
    have hB3 : Below W0.heap.size W0 w2 := by rw [HW2.out]; exact below_grown_sl W0.heap.size W0 q os (Nat.le_refl _)
    have HZ : Hid (Boxed w2 w1.heap.size 25 (.slice (some ⟨G, 0, none⟩) l.length l.length) ∧ Boxed w2 bx 30 (.int .u64 (x : Int)) ∧ RowV w2 G l ∧ Below bx w w2) := ⟨(hB3.block _ HW.out.1.lt).trans HW.out.1, (hB3.block _ HW.out.2.1.lt).trans HW.out.2.1, HW.out.2.2.below hB3 HW.out.2.2.lt, HD.out.2.1.trans (hB3.mono HD.out.2.2)⟩
    clear hB3 HW2 HW hW0 hcn
    have c6 := HZ.out.1.cell
    have c3 := HZ.out.2.1.cell
    generalize w1.heap.size = bs at *
    have HLN : Hid (l.length ≤ 65536 ∧ cn ≤ l.length) := ⟨hlen, hcle⟩
    clear hlen hcle
    obtain ⟨N, hN⟩ : ∃ N, N = l.length := ⟨_, rfl⟩
    have HN : Hid (N = l.length) := hN
    rw [← hN] at c6
    clear hN
    by_cases hcl : cn = N
    · have hlk : lookP l x = none := HA.out.2 (by rw [hcl, HN.out])
      have HF : Hid (findR b x = (0, 4)) := findR_none HD.out.1 hlk
      have e1 : ((cn : Int) == (N : Int)) = true := by simp [hcl]
      have HB : Hid (Below bx w w2) := HZ.out.2.2.2
      have HNL : Hid ((l.length : Int) = (N : Int)) := by show (l.length : Int) = (N : Int); rw [HN.out]
      clear hlk HZ HA hcl
      refine wp_region_G (S := SB 1000 (fun _ => True) (fun Y => Y.cell? ⟨bs, 0, none⟩ = some (.slice (some ⟨G, 0, none⟩) N N) ∧ Y.cell? ⟨bx, 0, none⟩ = some (.int .u64 (x : Int)))) hmx ?_
      have hSB : SB 1000 (fun _ => True) (fun Y => Y.cell? ⟨bs, 0, none⟩ = some (.slice (some ⟨G, 0, none⟩) N N) ∧ Y.cell? ⟨bx, 0, none⟩ = some (.int .u64 (x : Int))) (Array.replicate 13 false) w2.drew := SB.on trivial ⟨c6, c3⟩
      refine wpAnyG_takeP (i := 0) (v := ?_) rfl (by kernel_rfl) (by kernel_rfl) (by kernel_rfl) (fun _ _ _ h => h) rfl (Or.inl ⟨by rfl, ?_⟩) (by assumption) ?_
      rotate_left
      · intro Y _; go_simp; try with_reducible rfl
      intro hSB0
      try simp only [Act.put, List.getElem_toArray, List.getElem_cons_zero, List.setIfInBounds_toArray, List.set_cons_zero, List.set_cons_succ]
      refine wpAnyG_takeP (i := 1) (v := ?_) rfl (by kernel_rfl) (by kernel_rfl) (by kernel_rfl) (fun _ _ _ h => h) rfl (Or.inl ⟨by rfl, ?_⟩) (by assumption) ?_
      rotate_left
      · intro Y hY; obtain ⟨y1, y2⟩ := hY; go_simp; try with_reducible rfl
      intro hSB1
      try simp only [Act.put, List.getElem_toArray, List.getElem_cons_zero, List.getElem_cons_succ, List.setIfInBounds_toArray, List.set_cons_zero, List.set_cons_succ]
      refine wpAnyG_takeP (i := 2) (v := ?_) rfl (by kernel_rfl) (by kernel_rfl) (by kernel_rfl) (fun _ _ _ h => h) rfl (Or.inl ⟨by rfl, ?_⟩) (by assumption) ?_
      rotate_left
      · intro Y _; go_simp; try with_reducible rfl
      intro hSB2
      try simp only [Act.put, List.getElem_toArray, List.getElem_cons_zero, List.getElem_cons_succ, List.setIfInBounds_toArray, List.set_cons_zero, List.set_cons_succ]
      refine wpAnyG_takeP (i := 3) (v := ?_) rfl (by kernel_rfl) (by kernel_rfl) (by kernel_rfl) (fun _ _ _ h => h) rfl (Or.inl ⟨by rfl, ?_⟩) (by assumption) ?_
      rotate_left
      · intro Y _; go_simp; try with_reducible rfl
      intro hSB3
      try simp only [Act.put, List.getElem_toArray, List.getElem_cons_zero, List.getElem_cons_succ, List.setIfInBounds_toArray, List.set_cons_zero, List.set_cons_succ]
      try simp only [e1]
      refine wpAnyG_takeP (i := 4) (v := ?_) rfl (by kernel_rfl) (by kernel_rfl) (by kernel_rfl) (fun _ _ _ h => h) rfl (Or.inl ⟨by rfl, ?_⟩) (by assumption) ?_
      rotate_left
      · intro Y _; go_simp; try with_reducible rfl
      intro hSB4
      try simp only [Act.put, List.getElem_toArray, List.getElem_cons_zero, List.getElem_cons_succ, List.setIfInBounds_toArray, List.set_cons_zero, List.set_cons_succ]
      refine wpAnyG_takeP (i := 5) (v := undef) rfl (by kernel_rfl) (by kernel_rfl) (by kernel_rfl) (fun _ _ _ h => h) rfl (Or.inr ⟨by rfl, rfl⟩) (by assumption) ?_
      intro hSB5
      try simp only [Act.put, List.getElem_toArray, List.getElem_cons_zero, List.getElem_cons_succ, List.setIfInBounds_toArray, List.set_cons_zero, List.set_cons_succ]
      refine wpAnyG_takeP (i := 6) (v := undef) rfl (by kernel_rfl) (by kernel_rfl) (by kernel_rfl) (fun _ _ _ h => h) rfl (Or.inr ⟨by rfl, rfl⟩) (by assumption) ?_
      intro hSB6
      try simp only [Act.put, List.getElem_toArray, List.getElem_cons_zero, List.getElem_cons_succ, List.setIfInBounds_toArray, List.set_cons_zero, List.set_cons_succ]
      refine wpAnyG_takeP (i := 7) (v := undef) rfl (by kernel_rfl) (by kernel_rfl) (by kernel_rfl) (fun _ _ _ h => h) rfl (Or.inr ⟨by rfl, rfl⟩) (by assumption) ?_
      intro hSB7
      try simp only [Act.put, List.getElem_toArray, List.getElem_cons_zero, List.getElem_cons_succ, List.setIfInBounds_toArray, List.set_cons_zero, List.set_cons_succ]
      refine wpAnyG_takeP (i := 8) (v := undef) rfl (by kernel_rfl) (by kernel_rfl) (by kernel_rfl) (fun _ _ _ h => h) rfl (Or.inr ⟨by rfl, rfl⟩) (by assumption) ?_
      intro hSB8
      try simp only [Act.put, List.getElem_toArray, List.getElem_cons_zero, List.getElem_cons_succ, List.setIfInBounds_toArray, List.set_cons_zero, List.set_cons_succ]
      refine wpAnyG_takeP (i := 9) (v := undef) rfl (by kernel_rfl) (by kernel_rfl) (by kernel_rfl) (fun _ _ _ h => h) rfl (Or.inr ⟨by rfl, rfl⟩) (by assumption) ?_
      intro hSB9
      try simp only [Act.put, List.getElem_toArray, List.getElem_cons_zero, List.getElem_cons_succ, List.setIfInBounds_toArray, List.set_cons_zero, List.set_cons_succ]
      refine wpAnyG_takeP (i := 10) (v := undef) rfl (by kernel_rfl) (by kernel_rfl) (by kernel_rfl) (fun _ _ _ h => h) rfl (Or.inr ⟨by rfl, rfl⟩) (by assumption) ?_
      intro hSB10
      try simp only [Act.put, List.getElem_toArray, List.getElem_cons_zero, List.getElem_cons_succ, List.setIfInBounds_toArray, List.set_cons_zero, List.set_cons_succ]
      refine wpAnyG_takeP (i := 11) (v := undef) rfl (by kernel_rfl) (by kernel_rfl) (by kernel_rfl) (fun _ _ _ h => h) rfl (Or.inr ⟨by rfl, rfl⟩) (by assumption) ?_
      intro hSB11
      try simp only [Act.put, List.getElem_toArray, List.getElem_cons_zero, List.getElem_cons_succ, List.setIfInBounds_toArray, List.set_cons_zero, List.set_cons_succ]
      refine wpAnyG_takeP (i := 12) (v := ?_) rfl (by kernel_rfl) (by kernel_rfl) (by kernel_rfl) (fun _ _ _ h => h) rfl (Or.inl ⟨by rfl, ?_⟩) (by assumption) ?_
      rotate_left
      · intro Y _; go_simp; try with_reducible rfl
      intro hSB12
      try simp only [Act.put, List.getElem_toArray, List.getElem_cons_zero, List.getElem_cons_succ, List.setIfInBounds_toArray, List.set_cons_zero, List.set_cons_succ]
      refine wpAnyG_done (by kernel_rfl) ?_ _
      clear hSB hSB0 hSB1 hSB2 hSB3 hSB4 hSB5 hSB6 hSB7 hSB8 hSB9 hSB10 hSB11 hSB12
      go_wp2
      go_ret2
      exact ⟨by rw [HF.out]; rfl, by rw [HX.out]; exact vbelow_drewN HB.out 1⟩
    · have hcl2 : cn < N := by have := HLN.out.2; have := HN.out; omega
      obtain ⟨⟨px, py⟩, hp⟩ : ∃ p, l[cn]? = some p := ⟨_, List.getElem?_eq_getElem (by rw [← HN.out]; exact hcl2)⟩
      obtain ⟨d1, d2⟩ := HZ.out.2.2.1.cell hp
      have hlk := HA.out.1 _ hp
      have e1 : ((cn : Int) == (N : Int)) = false := by simp; omega
      have i2 : (cn : Int) < (N : Int) := by omega
      have HB : Hid (Below bx w w2) := HZ.out.2.2.2
      have HLK : Hid ((px = x → findR b x = ((py : Int), 0)) ∧ (px ≠ x → findR b x = (0, 4))) := ⟨fun e => findR_some HD.out.1 (hlk.1 e), fun e => findR_none HD.out.1 (hlk.2 e)⟩
      simp only at d1 d2
      clear hlk HZ HA hcl hp
      refine wp_region_G (S := SB 1000 (fun _ => True) (fun Y => Y.cell? ⟨bs, 0, none⟩ = some (.slice (some ⟨G, 0, none⟩) N N) ∧ Y.cell? ⟨bx, 0, none⟩ = some (.int .u64 (x : Int)) ∧ Y.cell? ⟨G, cn * 2, none⟩ = some (.int .u64 (px : Int)))) hmx ?_
      have hSB : SB 1000 (fun _ => True) (fun Y => Y.cell? ⟨bs, 0, none⟩ = some (.slice (some ⟨G, 0, none⟩) N N) ∧ Y.cell? ⟨bx, 0, none⟩ = some (.int .u64 (x : Int)) ∧ Y.cell? ⟨G, cn * 2, none⟩ = some (.int .u64 (px : Int))) (Array.replicate 13 false) w2.drew := SB.on trivial ⟨c6, c3, d1⟩
      refine wpAnyG_takeP (i := 0) (v := ?_) rfl (by kernel_rfl) (by kernel_rfl) (by kernel_rfl) (fun _ _ _ h => h) rfl (Or.inl ⟨by rfl, ?_⟩) (by assumption) ?_
      rotate_left
      · intro Y _; go_simp; try with_reducible rfl
      intro hSB0
      try simp only [Act.put, List.getElem_toArray, List.getElem_cons_zero, List.setIfInBounds_toArray, List.set_cons_zero, List.set_cons_succ]
      refine wpAnyG_takeP (i := 1) (v := ?_) rfl (by kernel_rfl) (by kernel_rfl) (by kernel_rfl) (fun _ _ _ h => h) rfl (Or.inl ⟨by rfl, ?_⟩) (by assumption) ?_
      rotate_left
      · intro Y hY; obtain ⟨y1, y2, y3⟩ := hY; go_simp; try with_reducible rfl
      intro hSB1
      try simp only [Act.put, List.getElem_toArray, List.getElem_cons_zero, List.getElem_cons_succ, List.setIfInBounds_toArray, List.set_cons_zero, List.set_cons_succ]
      refine wpAnyG_takeP (i := 2) (v := ?_) rfl (by kernel_rfl) (by kernel_rfl) (by kernel_rfl) (fun _ _ _ h => h) rfl (Or.inl ⟨by rfl, ?_⟩) (by assumption) ?_
      rotate_left
      · intro Y _; go_simp; try with_reducible rfl
      intro hSB2
      try simp only [Act.put, List.getElem_toArray, List.getElem_cons_zero, List.getElem_cons_succ, List.setIfInBounds_toArray, List.set_cons_zero, List.set_cons_succ]
      refine wpAnyG_takeP (i := 3) (v := ?_) rfl (by kernel_rfl) (by kernel_rfl) (by kernel_rfl) (fun _ _ _ h => h) rfl (Or.inl ⟨by rfl, ?_⟩) (by assumption) ?_
      rotate_left
      · intro Y _; go_simp; try with_reducible rfl
      intro hSB3
      try simp only [Act.put, List.getElem_toArray, List.getElem_cons_zero, List.getElem_cons_succ, List.setIfInBounds_toArray, List.set_cons_zero, List.set_cons_succ]
      try simp only [e1]
      refine wpAnyG_takeP (i := 4) (v := ?_) rfl (by kernel_rfl) (by kernel_rfl) (by kernel_rfl) (fun _ _ _ h => h) rfl (Or.inl ⟨by rfl, ?_⟩) (by assumption) ?_
      rotate_left
      · intro Y _; go_simp; try with_reducible rfl
      intro hSB4
      try simp only [Act.put, List.getElem_toArray, List.getElem_cons_zero, List.getElem_cons_succ, List.setIfInBounds_toArray, List.set_cons_zero, List.set_cons_succ]
      refine wpAnyG_takeP (i := 5) (v := ?_) rfl (by kernel_rfl) (by kernel_rfl) (by kernel_rfl) (fun _ _ _ h => h) rfl (Or.inl ⟨by rfl, ?_⟩) (by assumption) ?_
      rotate_left
      · intro Y hY; obtain ⟨y1, y2, y3⟩ := hY; go_simp; try with_reducible rfl
      intro hSB5
      try simp only [Act.put, List.getElem_toArray, List.getElem_cons_zero, List.getElem_cons_succ, List.setIfInBounds_toArray, List.set_cons_zero, List.set_cons_succ]
      refine wpAnyG_takeP (i := 6) (v := ?_) rfl (by kernel_rfl) (by kernel_rfl) (by kernel_rfl) (fun _ _ _ h => h) rfl (Or.inl ⟨by rfl, ?_⟩) (by assumption) ?_
      rotate_left
      · intro Y _; go_simp; try with_reducible rfl
      intro hSB6
      try simp only [Act.put, List.getElem_toArray, List.getElem_cons_zero, List.getElem_cons_succ, List.setIfInBounds_toArray, List.set_cons_zero, List.set_cons_succ]
      refine wpAnyG_takeP (i := 7) (v := ?_) rfl (by kernel_rfl) (by kernel_rfl) (by kernel_rfl) (fun _ _ _ h => h) rfl (Or.inl ⟨by rfl, ?_⟩) (by assumption) ?_
      rotate_left
      · intro Y _; go_simp; try with_reducible rfl
      intro hSB7
      try simp only [Act.put, List.getElem_toArray, List.getElem_cons_zero, List.getElem_cons_succ, List.setIfInBounds_toArray, List.set_cons_zero, List.set_cons_succ]
      refine wpAnyG_takeP (i := 8) (v := ?_) rfl (by kernel_rfl) (by kernel_rfl) (by kernel_rfl) (fun _ _ _ h => h) rfl (Or.inl ⟨by rfl, ?_⟩) (by assumption) ?_
      rotate_left
      · intro Y _; go_simp; try with_reducible rfl
      intro hSB8
      try simp only [Act.put, List.getElem_toArray, List.getElem_cons_zero, List.getElem_cons_succ, List.setIfInBounds_toArray, List.set_cons_zero, List.set_cons_succ]
      refine wpAnyG_takeP (i := 9) (v := ?_) rfl (by kernel_rfl) (by kernel_rfl) (by kernel_rfl) (fun _ _ _ h => h) rfl (Or.inl ⟨by rfl, ?_⟩) (by assumption) ?_
      rotate_left
      · intro Y hY; obtain ⟨y1, y2, y3⟩ := hY; go_simp; try with_reducible rfl
      intro hSB9
      try simp only [Act.put, List.getElem_toArray, List.getElem_cons_zero, List.getElem_cons_succ, List.setIfInBounds_toArray, List.set_cons_zero, List.set_cons_succ]
      refine wpAnyG_takeP (i := 10) (v := ?_) rfl (by kernel_rfl) (by kernel_rfl) (by kernel_rfl) (fun _ _ _ h => h) rfl (Or.inl ⟨by rfl, ?_⟩) (by assumption) ?_
      rotate_left
      · intro Y hY; obtain ⟨y1, y2, y3⟩ := hY; go_simp; try with_reducible rfl
      intro hSB10
      try simp only [Act.put, List.getElem_toArray, List.getElem_cons_zero, List.getElem_cons_succ, List.setIfInBounds_toArray, List.set_cons_zero, List.set_cons_succ]
      refine wpAnyG_takeP (i := 11) (v := ?_) rfl (by kernel_rfl) (by kernel_rfl) (by kernel_rfl) (fun _ _ _ h => h) rfl (Or.inl ⟨by rfl, ?_⟩) (by assumption) ?_
      rotate_left
      · intro Y _; go_simp; try with_reducible rfl
      intro hSB11
      try simp only [Act.put, List.getElem_toArray, List.getElem_cons_zero, List.getElem_cons_succ, List.setIfInBounds_toArray, List.set_cons_zero, List.set_cons_succ]
      refine wpAnyG_takeP (i := 12) (v := ?_) rfl (by kernel_rfl) (by kernel_rfl) (by kernel_rfl) (fun _ _ _ h => h) rfl (Or.inl ⟨by rfl, ?_⟩) (by assumption) ?_
      rotate_left
      · intro Y _; go_simp; try with_reducible rfl
      intro hSB12
      try simp only [Act.put, List.getElem_toArray, List.getElem_cons_zero, List.getElem_cons_succ, List.setIfInBounds_toArray, List.set_cons_zero, List.set_cons_succ]
      refine wpAnyG_done (by kernel_rfl) ?_ _
      clear hSB hSB0 hSB1 hSB2 hSB3 hSB4 hSB5 hSB6 hSB7 hSB8 hSB9 hSB10 hSB11 hSB12
      by_cases hpx : px = x
      · subst hpx
        have HF : Hid (findR b px = ((py : Int), 0)) := HLK.out.1 rfl
        go_wp2
        go_ret2
        exact ⟨by rw [HF.out]; rfl, by rw [HX.out]; exact vbelow_drewN HB.out 1⟩
      · have HF : Hid (findR b x = (0, 4)) := HLK.out.2 hpx
        have i3 : ((px : Int) != (x : Int)) = true := by simp; omega
        go_wp2
        go_ret2
        exact ⟨by rw [HF.out]; rfl, by rw [HX.out]; exact vbelow_drewN HB.out 1⟩
end Go.Proofs.Ytfkepoibgmljkaa
