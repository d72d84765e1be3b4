import Derived.Test.YtfkepoibgmljkaaB15
import Derived.Test.YtfkepoibgmljkaaB13
/- The walk of join: lists joined by halves. -/
namespace Go.Proofs.Ytfkepoibgmljkaa
open Go.RowKit Go.Shelf Go.Maps

attribute [local go_sem] Oper.semAt_some

/-- a slice of lists of pairs -/
structure LsV (w : World) (a : Option Addr) (n c : Nat) (ls : List (List Pr)) : Prop where
  len : ls.length = n
  cells : 0 < n → ∃ b o, a = some ⟨b, o, none⟩ ∧ ∀ (i : Nat) l, ls[i]? = some l → ∃ ad k cp, w.cell? ⟨b, o + i, none⟩ = some (.slice ad k cp) ∧ PrV w ad k cp l
  cap : n ≤ c
theorem LsV.kept {w w' : World} {a : Option Addr} {n c : Nat} {ls : List (List Pr)} (h : LsV w a n c ls) (hB : Below w.heap.size w w') : LsV w' a n c ls := by
  refine ⟨h.len, fun h0 => ?_, h.cap⟩
  obtain ⟨b, o, e, hc⟩ := h.cells h0
  refine ⟨b, o, e, fun i l hl => ?_⟩
  obtain ⟨ad, k, cp, h1, h2⟩ := hc i l hl
  exact ⟨ad, k, cp, (hB.cell (p := ⟨b, o + i, none⟩) (World.block_lt_of_cell? w _ h1)).trans h1, h2.kept hB⟩
theorem LsV.take {w : World} {a : Option Addr} {n c : Nat} {ls : List (List Pr)} (h : LsV w a n c ls) (k : Nat) (hk : k ≤ n) : LsV w a k c (ls.take k) := by
  refine ⟨by rw [List.length_take, h.len]; omega, fun h0 => ?_, by have := h.cap; omega⟩
  obtain ⟨b, o, e, hc⟩ := h.cells (by omega)
  refine ⟨b, o, e, fun i l hl => hc i l ?_⟩
  rw [List.getElem?_take] at hl
  split at hl
  · exact hl
  · cases hl
theorem LsV.drop {w : World} {b o n c : Nat} {ls : List (List Pr)} (h : LsV w (some ⟨b, o, none⟩) n c ls) (k : Nat) (hk : k ≤ n) : LsV w (some ⟨b, o + k, none⟩) (n - k) (c - k) (ls.drop k) := by
  refine ⟨by rw [List.length_drop, h.len], fun h0 => ?_, by have := h.cap; omega⟩
  obtain ⟨b', o', e, hc⟩ := h.cells (by omega)
  cases e
  refine ⟨b, o + k, rfl, fun i l hl => ?_⟩
  rw [List.getElem?_drop] at hl
  have := hc (k + i) l hl
  rw [← Nat.add_assoc] at this
  exact this
/-- what join answers -/
structure JoinR (ls : List (List Pr)) (out : List Pr) : Prop where
  ris : Ris out
  look : ∀ x, lookP out x = lookP ls.flatten x
  len : out.length ≤ ls.flatten.length
  ok : (∀ l ∈ ls, PrOk l) → PrOk out
theorem JoinR.nil : JoinR [] [] := ⟨List.Pairwise.nil, fun _ => rfl, Nat.le_refl _, fun _ => PrOk.nil⟩
theorem JoinR.one {l : List Pr} (h : Ris l) : JoinR [l] l := ⟨h, fun x => by simp, by simp, fun hk => hk l (by simp)⟩
theorem JoinR.two {ls ms : List (List Pr)} {l m : List Pr} (h1 : JoinR ls l) (h2 : JoinR ms m) : JoinR (ls ++ ms) (joinL l m) :=
  ⟨joinL_ris l m h1.ris h2.ris, fun x => by rw [joinL_look l m x h1.ris h2.ris, h1.look, h2.look, List.flatten_append, look_app], by
    have := joinL_len l m
    have := h1.len
    have := h2.len
    rw [List.flatten_append, List.length_append]
    omega, fun hk => joinL_ok (h1.ok fun x hx => hk x (List.mem_append_left _ hx)) (h2.ok fun x hx => hk x (List.mem_append_right _ hx))⟩

set_option maxRecDepth 100000 in
set_option maxHeartbeats 4000000 in
theorem join_any : ∀ (N : Nat) (w : World) (a : Option Addr) (n c : Nat) (ls : List (List Pr)), n ≤ N → n ≤ 100000000 → LsV w a n c ls → (∀ l ∈ ls, Ris l) → ls.flatten.length ≤ 100000000 →
    Calls Try.prog 23 #[.slice a n c] w fun e w' => ∃ ad k c' out, e = .returned (.slice ad k c') ∧ PrV w' ad k c' out ∧ JoinR ls out ∧ Below w.heap.size w w' := by
  intro N
  induction N with
  | zero =>
    intro w a n c ls hN _ hl _ _
    obtain rfl : n = 0 := by omega
    have HJ : Hid (JoinR ls []) := by
      have : ls = [] := List.eq_nil_of_length_eq_zero hl.len
      rw [this]
      exact JoinR.nil
    clear hl
    go_enter Try.func23, Try.ntmps23
    go_wp2
    go_ret
    exact ⟨none, 0, 0, [], rfl, ⟨prs_nil _ _, fun _ => ⟨rfl, rfl⟩, Nat.le_refl _⟩, HJ.out, Below.refl _ _⟩
  | succ N ih =>
    intro w a n c ls hN hn8 hl hr ht
    have hmx : Try.prog.follows .mixedOrders = true := by kernel_rfl
    by_cases h0 : n = 0
    · subst h0
      have HJ : Hid (JoinR ls []) := by
        have : ls = [] := List.eq_nil_of_length_eq_zero hl.len
        rw [this]
        exact JoinR.nil
      clear hl hr ht ih
      go_enter Try.func23, Try.ntmps23
      go_wp2
      go_ret
      exact ⟨none, 0, 0, [], rfl, ⟨prs_nil _ _, fun _ => ⟨rfl, rfl⟩, Nat.le_refl _⟩, HJ.out, Below.refl _ _⟩
    · obtain ⟨b, o, rfl, hc⟩ := hl.cells (by omega)
      by_cases h1 : n = 1
      · subst h1
        obtain ⟨l, hl1⟩ : ∃ l, ls = [l] := List.length_eq_one_iff.1 hl.len
        subst hl1
        obtain ⟨ad, k, cp, c1, hp⟩ := hc 0 l rfl
        rw [Nat.add_zero] at c1
        have HZ : Hid (PrV w ad k cp l ∧ JoinR [l] l) := ⟨hp, JoinR.one (hr l (by simp))⟩
        clear hl hr ht ih hc hp
        go_enter Try.func23, Try.ntmps23
        go_wp2
        go_ret
        exact ⟨ad, k, cp, l, rfl, HZ.out.1, HZ.out.2, Below.refl _ _⟩
      · obtain ⟨h, hh⟩ : ∃ h, h = n / 2 := ⟨_, rfl⟩
        have hq : (n : Int) / 2 = (h : Int) := by omega
        have hq2 : (n : Int).tdiv 2 = (h : Int) := by rw [Int.tdiv_eq_ediv_of_nonneg (by omega)]; omega
        have hh2 : 1 ≤ h ∧ h < n ∧ h ≤ N ∧ n - h ≤ N := by omega
        have e0 : ((n : Int) == 0) = false := by simp; omega
        have e1 : ((n : Int) == 1) = false := by simp; omega
        have hcap := hl.cap
        have g1 : (h : Int) ≤ (c : Int) := by omega
        have g2 : (h : Int) ≤ (n : Int) := by omega
        have g3 : (n : Int) ≤ (c : Int) := by omega
        have g4 : ¬ c = h := by omega
        have hlt := fun W (hW : Below w.heap.size w W) => ih W (some ⟨b, o, none⟩) h c (ls.take h) (by omega) (by omega) ((hl.take h (by omega)).kept hW) (fun l hl => hr l (List.mem_of_mem_take hl)) (Nat.le_trans (by
          conv => rhs; rw [← List.take_append_drop h ls]
          rw [List.flatten_append, List.length_append]
          omega) ht)
        have hld := fun W (hW : Below w.heap.size w W) => ih W (some ⟨b, o + h, none⟩) (n - h) (c - h) (ls.drop h) (by omega) (by omega) ((hl.drop h (by omega)).kept hW) (fun l hl => hr l (List.mem_of_mem_drop hl)) (Nat.le_trans (by
          conv => rhs; rw [← List.take_append_drop h ls]
          rw [List.flatten_append, List.length_append]
          omega) ht)
        have HI : Hid (∀ W, Below w.heap.size w W → Calls Try.prog 23 #[.slice (some ⟨b, o, none⟩) h c] W fun e w' => ∃ ad k c' out, e = .returned (.slice ad k c') ∧ PrV w' ad k c' out ∧ JoinR (ls.take h) out ∧ Below W.heap.size W w') := hlt
        have HI2 : Hid (∀ W, Below w.heap.size w W → Calls Try.prog 23 #[.slice (some ⟨b, o + h, none⟩) (n - h) (c - h)] W fun e w' => ∃ ad k c' out, e = .returned (.slice ad k c') ∧ PrV w' ad k c' out ∧ JoinR (ls.drop h) out ∧ Below W.heap.size W w') := hld
        have HT : Hid (ls.flatten.length ≤ 100000000 ∧ (ls.take h).flatten.length ≤ ls.flatten.length ∧ (ls.drop h).flatten.length ≤ ls.flatten.length) := by
          have e : ls.flatten.length = (ls.take h).flatten.length + (ls.drop h).flatten.length := by
            conv => lhs; rw [← List.take_append_drop h ls]
            rw [List.flatten_append, List.length_append]
          exact ⟨ht, by omega, by omega⟩
        clear hlt hld ih hl hr ht hc hh
        go_enter Try.func23, Try.ntmps23
        go_upto_region 7 with fail
        try rw [hq]
        refine wp_region_G (S := SB 1000 (fun _ => True) (fun _ => True)) hmx ?_
        have hSB : SB 1000 (fun _ => True) (fun _ => True) (Array.replicate 10 false) w.drew := SB.on trivial trivial
        have hBd : Below w.heap.size w w.drew := vb_drew (Below.refl _ _)
        refine wpAnyG_takeP (i := 0) (v := ?_) rfl (by kernel_rfl) (by kernel_rfl) (by kernel_rfl) (fun _ _ _ h => h) rfl (Or.inl ⟨by rfl, ?_⟩) (by assumption) ?_
        rotate_left
        · intro Y _; go_simp; try with_reducible rfl
        intro hSB0
        try simp only [Act.put, List.getElem_toArray, List.getElem_cons_zero, List.setIfInBounds_toArray, List.set_cons_zero, List.set_cons_succ]
        refine wpAnyG_takeP (i := 1) (v := ?_) rfl (by kernel_rfl) (by kernel_rfl) (by kernel_rfl) (fun _ _ _ h => h) rfl (Or.inl ⟨by rfl, ?_⟩) (by assumption) ?_
        rotate_left
        · intro Y _; go_simp; try with_reducible rfl
        intro hSB1
        try simp only [Act.put, List.getElem_toArray, List.getElem_cons_zero, List.getElem_cons_succ, List.setIfInBounds_toArray, List.set_cons_zero, List.set_cons_succ]
        refine wpAnyG_takeP (i := 2) (v := ?_) rfl (by kernel_rfl) (by kernel_rfl) (by kernel_rfl) (fun _ _ _ h => h) rfl (Or.inl ⟨by rfl, ?_⟩) (by assumption) ?_
        rotate_left
        · intro Y _; go_simp; try with_reducible rfl
        intro hSB2
        try simp only [Act.put, List.getElem_toArray, List.getElem_cons_zero, List.getElem_cons_succ, List.setIfInBounds_toArray, List.set_cons_zero, List.set_cons_succ]
        refine wpAnyG_takeP (i := 4) (v := ?_) rfl (by kernel_rfl) (by kernel_rfl) (by kernel_rfl) (fun _ _ _ h => h) rfl (Or.inl ⟨by rfl, ?_⟩) (by assumption) ?_
        rotate_left
        · intro Y _; go_simp; try with_reducible rfl
        intro hSB4
        try simp only [Act.put, List.getElem_toArray, List.getElem_cons_zero, List.getElem_cons_succ, List.setIfInBounds_toArray, List.set_cons_zero, List.set_cons_succ]
        refine wpAnyG_takeP (i := 5) (v := ?_) rfl (by kernel_rfl) (by kernel_rfl) (by kernel_rfl) (fun _ _ _ h => h) rfl (Or.inl ⟨by rfl, ?_⟩) (by assumption) ?_
        rotate_left
        · intro Y _; go_simp; try with_reducible rfl
        intro hSB5
        try simp only [Act.put, List.getElem_toArray, List.getElem_cons_zero, List.getElem_cons_succ, List.setIfInBounds_toArray, List.set_cons_zero, List.set_cons_succ]
        refine wpAnyG_takeP (i := 6) (v := ?_) rfl (by kernel_rfl) (by kernel_rfl) (by kernel_rfl) (fun _ _ _ h => h) rfl (Or.inl ⟨by rfl, ?_⟩) (by assumption) ?_
        rotate_left
        · intro Y _; go_simp; try with_reducible rfl
        intro hSB6
        try simp only [Act.put, List.getElem_toArray, List.getElem_cons_zero, List.getElem_cons_succ, List.setIfInBounds_toArray, List.set_cons_zero, List.set_cons_succ]
        refine wpAnyG_one (i := 3) (by kernel_rfl) rfl (fun K hK => ?_)
        refine vstep_join _ (by rfl) _ _ (by rfl) _ (by rfl) (fun v W => ∃ ad k c' out, v = .slice ad k c' ∧ PrV W ad k c' out ∧ JoinR (ls.take h) out ∧ Below w.heap.size w W) ((HI.out w.drew hBd).mono (fun e w' ⟨ad, k, c', out, h1, h2, h3, h4⟩ => ⟨_, h1, ad, k, c', out, rfl, h2, h3, hBd.trans (h4.mono hBd.size)⟩)) ?_
        rintro v w1 ⟨ad1, k1, c1, out1, rfl, hp1, hj1, hB1⟩
        refine hK.out _ _ (SB.on trivial trivial) (fun hSB3 => ?_)
        clear hK K
        try simp only [Act.put, List.getElem_toArray, List.getElem_cons_zero, List.getElem_cons_succ, List.setIfInBounds_toArray, List.set_cons_zero, List.set_cons_succ]
        refine wpAnyG_one (i := 7) (by kernel_rfl) rfl (fun K hK => ?_)
        refine vstep_join _ (by rfl) _ _ (by rfl) _ (by rfl) (fun v W => ∃ ad k c' out, v = .slice ad k c' ∧ PrV W ad k c' out ∧ JoinR (ls.drop h) out ∧ Below w1.heap.size w1 W) ((HI2.out w1 hB1).mono (fun e w' ⟨ad, k, c', out, h1, h2, h3, h4⟩ => ⟨_, h1, ad, k, c', out, rfl, h2, h3, h4⟩)) ?_
        rintro v w2 ⟨ad2, k2, c2, out2, rfl, hp2, hj2, hB2⟩
        refine hK.out _ _ (SB.on trivial trivial) (fun hSB7 => ?_)
        clear hK K
        try simp only [Act.put, List.getElem_toArray, List.getElem_cons_zero, List.getElem_cons_succ, List.setIfInBounds_toArray, List.set_cons_zero, List.set_cons_succ]
        refine wpAnyG_one (i := 8) (by kernel_rfl) rfl (fun K hK => ?_)
        refine vstep_joinTwo _ (by rfl) _ _ _ _ (by rfl) _ _ (by rfl) (by rfl) (fun v W => ∃ ad k c', v = .slice ad k c' ∧ PrV W ad k c' (joinL out1 out2) ∧ Below w2.heap.size w2 W) ((joinTwo_any w2 ad1 ad2 k1 c1 k2 c2 out1 out2 (hp1.kept hB2) hp2 (by have := hp1.prs.1; have := hj1.len; have := HT.out; omega) (by have := hp2.prs.1; have := hj2.len; have := HT.out; omega)).mono (fun e w' ⟨ad, k, c', h1, h2, h3⟩ => ⟨_, h1, ad, k, c', rfl, h2, h3⟩)) ?_
        rintro v w3 ⟨ad3, k3, c3, rfl, hp3, hB3⟩
        refine hK.out _ _ (SB.on trivial trivial) (fun hSB8 => ?_)
        clear hK K
        try simp only [Act.put, List.getElem_toArray, List.getElem_cons_zero, List.getElem_cons_succ, List.setIfInBounds_toArray, List.set_cons_zero, List.set_cons_succ]
        refine wpAnyG_takeP (i := 9) (v := ?_) rfl (by kernel_rfl) (by kernel_rfl) (by kernel_rfl) (fun _ _ _ h => h) rfl (Or.inl ⟨by rfl, ?_⟩) (by assumption) ?_
        rotate_left
        · intro Y _; go_simp; try with_reducible rfl
        intro hSB9
        try simp only [Act.put, List.getElem_toArray, List.getElem_cons_zero, List.getElem_cons_succ, List.setIfInBounds_toArray, List.set_cons_zero, List.set_cons_succ]
        refine wpAnyG_done (by kernel_rfl) ?_ _
        clear hSB hSB0 hSB1 hSB2 hSB3 hSB4 hSB5 hSB6 hSB7 hSB8 hSB9
        have HZ : Hid (PrV w3 ad3 k3 c3 (joinL out1 out2) ∧ JoinR ls (joinL out1 out2) ∧ Below w.heap.size w w3) := by
          have hB12 := hB1.trans (hB2.mono hB1.size)
          refine ⟨hp3, ?_, hB12.trans (hB3.mono hB12.size)⟩
          have := hj1.two hj2
          rwa [List.take_append_drop] at this
        clear hp1 hp2 hp3 hj1 hj2 hB1 hB2 hB3
        go_wp2
        go_ret
        exact ⟨_, _, _, _, rfl, HZ.out.1, HZ.out.2.1, HZ.out.2.2⟩
end Go.Proofs.Ytfkepoibgmljkaa

/- For RunMerges: what joins and sorts have in common; the law's some2. -/
namespace Go.Proofs.Ytfkepoibgmljkaa
open Go.RowKit Go.Shelf Go.Maps

attribute [local go_sem] Oper.semAt_some

theorem joinR_sortR {ls : List (List Pr)} {out l' : List Pr} (h : JoinR ls out) (s : SortR ls.flatten l') : out = l' :=
  ris_ext out l' h.ris s.ris fun x => by rw [h.look, s.look]
/-- sorted pairs, without one from 0 -/
def cutZ : List Pr → List Pr
  | [] => []
  | p :: l => if p.1 = 0 then l else p :: l
theorem cutZ_yes {p : Pr} {l : List Pr} (e : p.1 = 0) : cutZ (p :: l) = l := by rw [cutZ, if_pos e]
theorem cutZ_no {p : Pr} {l : List Pr} (e : p.1 ≠ 0) : cutZ (p :: l) = p :: l := by rw [cutZ, if_neg e]
theorem cutZ_ris {l : List Pr} (h : Ris l) : risF 0 (cutZ l) = true := by
  cases l with
  | nil => rfl
  | cons p l =>
    have h' := List.pairwise_cons.1 h
    by_cases e : p.1 = 0
    · rw [cutZ_yes e]
      exact (risF_iff l 0).2 ⟨h'.2, fun q hq => by have := h'.1 q hq; omega⟩
    · rw [cutZ_no e]
      refine (risF_iff (p :: l) 0).2 ⟨h, fun q hq => ?_⟩
      rcases List.mem_cons.1 hq with rfl | hq
      · omega
      · have := h'.1 q hq; omega
theorem cutZ_ok {l : List Pr} (h : PrOk l) : PrOk (cutZ l) := by
  cases l with
  | nil => exact h
  | cons p l =>
    by_cases e : p.1 = 0
    · rw [cutZ_yes e]; exact h.tail
    · rw [cutZ_no e]; exact h
theorem cutZ_len (l : List Pr) : (cutZ l).length ≤ l.length := by
  cases l with
  | nil => exact Nat.le_refl _
  | cons p l =>
    by_cases e : p.1 = 0
    · rw [cutZ_yes e]; simp
    · rw [cutZ_no e]; exact Nat.le_refl _
theorem cutZ_good {l : List Pr} (h : Ris l) (hok : PrOk l) (hn : l.length ≤ 65536) : GoodV (cutZ l) := ⟨cutZ_ok hok, cutZ_ris h, Nat.le_trans (cutZ_len l) hn⟩

theorem some2_any (w : World) (a : Option Addr) (n c : Nat) (hcap : n ≤ c) :
    Calls Try.prog 10 #[.slice a n c] w fun e w' => e = .returned (.slice a (min n 3000) c) ∧ w' = w := by
  by_cases h : n ≤ 3000
  · have i1 : min (n : Int) 3000 = (n : Int) := by omega
    have i2 : (n : Int) ≤ (c : Int) := by omega
    rw [Nat.min_eq_left h]
    go_enter Try.func10, Try.ntmps10
    go_wp2
    go_ret
    exact ⟨rfl, rfl⟩
  · have i1 : min (n : Int) 3000 = 3000 := by omega
    have i2 : (3000 : Int) ≤ (c : Int) := by omega
    rw [Nat.min_eq_right (by omega)]
    go_enter Try.func10, Try.ntmps10
    go_wp2
    go_ret
    exact ⟨rfl, rfl⟩
end Go.Proofs.Ytfkepoibgmljkaa
