import Derived.Test.YtngfhhdmemldkaaGreatG45
/- The calls of package graph where there is no store; the law's same. -/
namespace Go.Proofs.YtngfhhdmemldkaaGreat
open Go.RowKit Go.Maps

attribute [local go_sem] Oper.semAt_some

theorem between_nil (w : World) (v u : Value) : Calls Tryz.prog 21 #[.pointer none, v, u] w fun e w' => e = .returned (.tuple #[.slice none 0 0, .int .i64 1]) ∧ w' = w := by
  have hr := gread_nil w v
  go_enter Tryz.func21, Tryz.ntmps21
  go_wp2_with (go_at_call 34; refine hr.mono ?_; clear hr; rintro e w1 ⟨rfl, h1⟩; subst h1)
  go_ret2
  exact ⟨rfl, rfl⟩
theorem roots_nil (w : World) (v : Value) : Calls Tryz.prog 22 #[.pointer none, v] w fun e w' => e = .returned (.tuple #[.slice none 0 0, .int .i64 1]) ∧ w' = w := by
  have hr := gread_nil w v
  go_enter Tryz.func22, Tryz.ntmps22
  go_wp2_with (go_at_call 34; refine hr.mono ?_; clear hr; rintro e w1 ⟨rfl, h1⟩; subst h1)
  go_ret2
  exact ⟨rfl, rfl⟩
theorem depth_nil (w : World) (c : Int) : Calls Tryz.prog 17 #[.pointer none, .int .u64 c] w fun e w' => e = .returned (.tuple #[.int .i64 0, .int .i64 1]) ∧ Below w.heap.size w w' := by
  have hr := fun W v => gread_nil W v
  go_enter Tryz.func17, Tryz.ntmps17
  go_wp2_with (go_at_call 34; refine (hr _ _).mono ?_; clear hr; rintro e w1 ⟨rfl, h1⟩; subst h1)
  go_ret2
  exact ⟨rfl, (Below.refl _ _).alloc (Nat.le_refl _) _⟩
theorem whole0_nil (w : World) (v : Value) : Calls Tryz.prog 37 #[.pointer none, v] w fun e w' => e = .returned (.int .i64 1) ∧ w' = w := by
  have hr := gread_nil w v
  go_enter Tryz.func37, Tryz.ntmps37
  go_wp2_with (go_at_call 34; refine hr.mono ?_; clear hr; rintro e w1 ⟨rfl, h1⟩; subst h1)
  go_ret
  exact ⟨rfl, rfl⟩
theorem whole_nil (w : World) (c : Int) : Calls Tryz.prog 25 #[.pointer none, .int .u64 c] w fun e w' => e = .returned (.int .i64 1) ∧ Below w.heap.size w w' := by
  have hr := fun W v => whole0_nil W v
  go_enter Tryz.func25, Tryz.ntmps25
  go_wp2_with (go_at_call 37; refine (hr _ _).mono ?_; clear hr; rintro e w1 ⟨rfl, h1⟩; subst h1)
  go_ret
  exact ⟨rfl, (Below.refl _ _).alloc (Nat.le_refl _) _⟩
theorem reach_nil (w : World) (v : Value) : Calls Tryz.prog 24 #[.pointer none, v] w fun e w' => e = .returned (.tuple #[.slice none 0 0, .int .i64 1]) ∧ w' = w := by
  have hr := whole0_nil w v
  go_enter Tryz.func24, Tryz.ntmps24
  go_wp2_with (go_at_call 37; refine hr.mono ?_; clear hr; rintro e w1 ⟨rfl, h1⟩; subst h1)
  go_ret2
  exact ⟨rfl, rfl⟩
/-- the law's same -/
theorem lsame_drop (l m : List Int) (k : Nat) (x y : Int) (hx : l[k]? = some x) (hy : m[k]? = some y) : (l.drop k == m.drop k) = (x == y && (l.drop (k + 1) == m.drop (k + 1))) := by
  have h1 := (List.getElem?_eq_some_iff.1 hx)
  have h2 := (List.getElem?_eq_some_iff.1 hy)
  obtain ⟨a1, a2⟩ := h1
  obtain ⟨b1, b2⟩ := h2
  rw [List.drop_eq_getElem_cons a1, List.drop_eq_getElem_cons b1, a2, b2]
  rfl
set_option maxRecDepth 20000 in
theorem gsame_any (w : World) (a b : Option Addr) (n m c d : Nat) (l k : List Int) (ha : Ids w a n l) (hb : Ids w b m k) (hn : n ≤ 1000000000000) (hm : m ≤ 1000000000000) :
    Calls Tryz.prog 14 #[.slice a n c, .slice b m d] w fun e w' => e = .returned (.bool (l == k)) ∧ Below w.heap.size w w' := by
  have hll := ha.1
  have hlk := hb.1
  by_cases hnm : n = m
  · subst hnm
    obtain ⟨E, hE⟩ : ∃ E, E = (l == k) := ⟨_, rfl⟩
    rw [← hE]
    go_enter Tryz.func14, Tryz.ntmps14
    go_wp2
    go_loopw [13] (fun v wr => ∃ j : Nat, j ≤ n ∧ v = .int .i64 (j : Int) ∧ Hid (E = (l.drop j == k.drop j) ∧ Below w.heap.size w wr)) (fun v _ => n - (intOf v).toNat)
    case atStart => exact ⟨0, Nat.zero_le _, rfl, hE, Below.refl _ _⟩
    case round =>
      clear hE
      obtain ⟨j, hj, rfl, H⟩ := hrel
      by_cases hlt : j < n
      · obtain ⟨x, hx⟩ : ∃ x, l[j]? = some x := ⟨_, List.getElem?_eq_getElem (by omega)⟩
        obtain ⟨y, hy⟩ : ∃ y, k[j]? = some y := ⟨_, List.getElem?_eq_getElem (by omega)⟩
        have hst := H.out.1.trans (lsame_drop l k j x y hx hy)
        have hBw := H.out.2
        have hax := ha.below hBw
        have hbx := hb.below hBw
        obtain ⟨b1, o1, rfl, hc1⟩ := hax.2 (by omega)
        obtain ⟨b2, o2, rfl, hc2⟩ := hbx.2 (by omega)
        have q1 := hc1 j x hx
        have q2 := hc2 j y hy
        have i2 : (j : Int) < (n : Int) := by omega
        have i3 : ¬ n ≤ j := by omega
        have HB : Hid (∀ q, Below w.heap.size w (wr.drewN q)) := fun q => hBw.trans ⟨rfl, rfl, rfl, Nat.le_refl _, fun _ _ => rfl⟩
        have p1 : ∀ q, (wr.drewN q).cell? ⟨b1, o1 + j, none⟩ = some (.int .u64 x) := fun _ => q1
        have p2 : ∀ q, (wr.drewN q).cell? ⟨b2, o2 + j, none⟩ = some (.int .u64 y) := fun _ => q2
        clear hc1 hc2 hx hy H hBw hax hbx
        by_cases hxy : x = y
        · subst hxy
          have HE : Hid (E = (l.drop (j + 1) == k.drop (j + 1))) := by rw [hst, beq_self_eq_true, Bool.true_and]; exact rfl
          clear hst
          go_wp2
          go_quiet (fail)
          go_wp2
          go_roundw
          case rel => exact ⟨j + 1, by omega, by simp, HE.out, HB.out _⟩
          case measure => simp [intOf]; omega
        · have hxy' : (x == y) = false := beq_eq_false_iff_ne.2 hxy
          have hE0 : E = false := by rw [hst, hxy']; rfl
          clear hst
          subst hE0
          go_wp2
          go_quiet (fail)
          go_wp2
          go_ret
          exact ⟨rfl, HB.out _⟩
      · obtain rfl : j = n := by omega
        have i2 : ¬ (j : Int) < (j : Int) := by omega
        have e0 : E = true := by rw [H.out.1, List.drop_of_length_le (by omega), List.drop_of_length_le (by omega)]; rfl
        have HB := H.out.2
        clear H
        subst e0
        go_wp2
        go_ret
        exact ⟨rfl, HB⟩
  · have hne : (l == k) = false := beq_eq_false_iff_ne.2 (fun e => hnm (by rw [← hll, ← hlk, e]))
    have i1 : ¬ (n : Int) = (m : Int) := by omega
    rw [hne]
    clear hne
    go_enter Tryz.func14, Tryz.ntmps14
    go_wp2
    go_ret
    exact ⟨rfl, Below.refl _ _⟩
end Go.Proofs.YtngfhhdmemldkaaGreat
