import Derived.Test.YtiafhbpklddlnaaC49
/- The law's own functions: changes cut short. -/
namespace Go.Proofs.Ytiafhbpklddlnaa
open Go.RowKit Go.Shelf Go.Maps

attribute [local go_sem] Oper.semAt_some

theorem cutR_len (l : List Ch) : (cutR l).length = min 80 l.length := by simp [cutR]
theorem cutR_take (l : List Ch) (k : Nat) (hk : 80 ≤ k) : cutR (l.take k) = cutR l := by
  unfold cutR
  rw [List.take_take, Nat.min_eq_left hk]
theorem cutR_snoc {l : List Ch} {k : Nat} {x : Ch} (h : l[k]? = some x) (hk : k < 80) : cutR (l.take (k + 1)) = cutR (l.take k) ++ [cutOne x] := by
  unfold cutR
  rw [List.take_take, List.take_take, Nat.min_eq_right (by omega), Nat.min_eq_right (by omega), List.take_add_one, h]
  simp
theorem two_new_at (w : World) (x : Ch) : ∀ j u, (chCells [x])[j]? = some u → ((w.alloc (.cells #[.string x.1, .int .u64 x.2] 31)).alloc (.cells #[.string x.1, .int .u64 x.2] 31)).cell? ((⟨w.heap.size + 1, 0, none⟩ : Addr).add j) = some u := by
  have := cells_two_new (w.alloc (.cells #[.string x.1, .int .u64 x.2] 31)) x
  rw [World.size_alloc] at this
  exact this

set_option maxRecDepth 100000 in
set_option maxHeartbeats 4000000 in
theorem lcut_any (w : World) (a : Option Addr) (m c : Nat) (l : List Ch) (hl : Chs w a m l) (hs : ShortR l) :
    Calls Try.prog 16 #[.slice a m c] w fun e w' => ∃ ad cp, e = .returned (.slice ad (cutR l).length cp) ∧ w'.ownsRow w.heap.size 31 2 (.slice ad (cutR l).length cp) (cutR l).length (chCells (cutR l)) ∧ Below w.heap.size w w' := by
  have hll := hl.1
  obtain ⟨i0, hi, hz0, hz1, hz2⟩ := info_parts infoRef
  go_enter Try.func16, Try.ntmps16
  go_wp2
  go_loopw [3, 8] (fun o i wr => ∃ (k : Nat) (ad : Option Addr) (p cp : Nat), k ≤ m ∧ k ≤ 80 ∧ i = .int .i64 (k : Int) ∧ o = .slice ad p cp ∧ p = k ∧ Hid (wr.ownsRow w.heap.size 31 2 (.slice ad p cp) p (chCells (cutR (l.take k))) ∧ Below w.heap.size w wr)) (fun _ i _ => m - (intOf i).toNat)
  case atStart => exact ⟨0, none, 0, 0, Nat.zero_le _, Nat.zero_le _, rfl, rfl, rfl, World.ownsRow_nil _ _ _ _, Below.refl _ _⟩
  case round =>
    obtain ⟨k, ad, p, cp, hk, hk80, rfl, rfl, hp, H⟩ := hrel
    have hp' : k = p := hp.symm
    clear hp
    subst hp'
    by_cases hlt : k < m
    · obtain ⟨x, hx⟩ : ∃ x, l[k]? = some x := ⟨_, List.getElem?_eq_getElem (by omega)⟩
      obtain ⟨b1, o1, rfl, hc1⟩ := hl.2 (by omega)
      obtain ⟨t1, t2⟩ := hc1 k x hx
      have hsx := hs k x hx
      obtain ⟨hrow, hB⟩ := H.out
      have q1 := (hB.cell (p := ⟨b1, o1 + k * 2, none⟩) (World.block_lt_of_cell? w _ t1)).trans t1
      have q2 := (hB.cell (p := ⟨b1, o1 + k * 2 + 1, none⟩) (World.block_lt_of_cell? w _ t2)).trans t2
      have i2 : (k : Int) < (m : Int) := by omega
      have i3 : ¬ m ≤ k := by omega
      have HX : Hid (l[k]? = some x) := hx
      clear hc1 hx t1 t2
      obtain ⟨nm, iv⟩ := x
      simp only at q1 q2 hsx
      by_cases h80 : k = 80
      · subst h80
        have HR : Hid (wr.ownsRow w.heap.size 31 2 (.slice ad 80 cp) 80 (chCells (cutR l)) ∧ Below w.heap.size w wr ∧ 80 = (cutR l).length) := by
          obtain ⟨h1, h2⟩ := H.out
          rw [cutR_take l 80 (by omega)] at h1
          exact ⟨h1, h2, by rw [cutR_len]; omega⟩
        clear H hrow hB
        have hB0 := (Below.refl _ wr).alloc (Nat.le_refl _) (.cells #[.string nm, .int .u64 iv] 31)
        go_wp2
        go_ret
        obtain ⟨h1, h2, h3⟩ := HR.out
        rw [← h3]
        exact ⟨ad, cp, rfl, h1.alloc _, h2.alloc h2.size _⟩
      · have i4 : ¬ (k : Int) = 80 := by omega
        obtain ⟨nm', hnm⟩ : ∃ nm', nm' = nm.extract 0 (min (nm.size : Int) 250).toNat := ⟨_, rfl⟩
        have hr2 := (hrow.alloc (.cells #[.string nm', .int .u64 iv] 31))
        have hr3 := (hr2.alloc (.cells #[.string nm', .int .u64 iv] 31))
        have hB3 : Below w.heap.size w ((wr.alloc (.cells #[.string nm', .int .u64 iv] 31)).alloc (.cells #[.string nm', .int .u64 iv] 31)) := (hB.alloc hB.size _).alloc (by simp; have := hB.size; omega) _
        have hct := cutR_snoc HX.out (by omega)
        rw [show cutOne (nm, iv) = (nm', iv) from by rw [hnm]; rfl] at hct
        have HN : Hid (cutR (l.take (k + 1)) = cutR (l.take k) ++ [(nm', iv)] ∧ Below w.heap.size w ((wr.alloc (.cells #[.string nm', .int .u64 iv] 31)).alloc (.cells #[.string nm', .int .u64 iv] 31))) := ⟨hct, hB3⟩
        have hw0 := hB.size
        clear hrow H HX hct hB hB3 hr2
        subst hnm
        go_wp2_with (at_builtin; (refine wpList_append_own_at _ rfl _ _ 37 rfl w.heap.size 31 i0 _ 2 24 Try.underlying37 hi hz0 hz1 hz2 rfl (by decide) _ k _ rfl hr3 ⟨wr.heap.size + 1, 0, none⟩ 1 1 (chCells [(_, iv)]) rfl rfl (two_new_at _ (_, iv)) (chCells_one _) (by unfold maxLen; omega) (by omega) (by simp; omega) ?_; intro v' w5 hown5 hgr5 _ hat5; have HB5 : Hid (Below w.heap.size w w5) := HN.out.2.trans (below_grC hr3 HN.out.2.size hgr5); have H5 : Hid (w5.ownsRow w.heap.size 31 2 v' (k + 1) (chCells (cutR (l.take (k + 1))))) := (by rw [HN.out.1, chCells_append]; exact hown5 : w5.ownsRow w.heap.size 31 2 v' (k + 1) (chCells (cutR (l.take (k + 1))))); clear hgr5 hat5; obtain ⟨ad5, cp5, hv5, _⟩ := row_shapeC hown5; clear hown5; subst hv5))
        go_roundw
        case rel => exact ⟨k + 1, ad5, k + 1, cp5, by omega, by omega, by simp, rfl, by omega, H5.out, HB5.out⟩
        case measure => simp [intOf]; omega
    · obtain rfl : k = m := by omega
      have i2 : ¬ (k : Int) < (k : Int) := by omega
      have HR : Hid (wr.ownsRow w.heap.size 31 2 (.slice ad k cp) k (chCells (cutR l)) ∧ Below w.heap.size w wr ∧ k = (cutR l).length) := by
        obtain ⟨h1, h2⟩ := H.out
        rw [List.take_of_length_le (by omega)] at h1
        exact ⟨h1, h2, by rw [cutR_len]; omega⟩
      clear H
      go_wp2
      go_ret
      obtain ⟨h1, h2, h3⟩ := HR.out
      rw [← h3]
      exact ⟨ad, cp, rfl, h1, h2⟩
end Go.Proofs.Ytiafhbpklddlnaa

/- The law's own functions: two lists held against each other. -/
namespace Go.Proofs.Ytiafhbpklddlnaa
open Go.RowKit Go.Shelf Go.Maps

attribute [local go_sem] Oper.semAt_some

theorem below_drewR {n0 : Nat} {w W : World} (h : Below n0 w W) (t : Nat) : Below n0 w (W.drewN t) := ⟨h.os, h.tape, h.output, h.size, h.block⟩

set_option maxRecDepth 100000 in
set_option maxHeartbeats 4000000 in
theorem lalike_any (w : World) (a b : Option Addr) (n m c1 c2 : Nat) (k l : List Ch) (hk : Chs w a n k) (hl : Chs w b m l) (hn : n ≤ 1000000) :
    Calls Try.prog 18 #[.slice a n c1, .slice b m c2] w fun e w' => e = .returned (.bool (decide (k = l))) ∧ Below w.heap.size w w' := by
  have hkl := hk.1
  have hll := hl.1
  by_cases hnm : n = m
  · subst hnm
    obtain ⟨R, hR⟩ : ∃ R, R = decide (k = l) := ⟨_, rfl⟩
    rw [← hR]
    have HR : Hid (R = decide (k = l)) := hR
    clear hR
    go_enter Try.func18, Try.ntmps18
    go_wp2
    go_loopw [13] (fun i wr => ∃ (q : Nat), q ≤ n ∧ i = .int .i64 (q : Int) ∧ Hid (k.take q = l.take q ∧ Below w.heap.size w wr)) (fun i _ => n - (intOf i).toNat)
    case atStart => exact ⟨0, Nat.zero_le _, rfl, rfl, Below.refl _ _⟩
    case round =>
      obtain ⟨q, hq, rfl, H⟩ := hrel
      by_cases hlt : q < n
      · obtain ⟨x, hx⟩ : ∃ x, k[q]? = some x := ⟨_, List.getElem?_eq_getElem (by omega)⟩
        obtain ⟨y, hy⟩ : ∃ y, l[q]? = some y := ⟨_, List.getElem?_eq_getElem (by omega)⟩
        obtain ⟨b1, o1, rfl, hc1⟩ := hk.2 (by omega)
        obtain ⟨b2, o2, rfl, hc2⟩ := hl.2 (by omega)
        obtain ⟨t1, t2⟩ := hc1 q x hx
        obtain ⟨s1, s2⟩ := hc2 q y hy
        have hB := H.out.2
        have q1 := (hB.cell (p := ⟨b1, o1 + q * 2, none⟩) (World.block_lt_of_cell? w _ t1)).trans t1
        have q2 := (hB.cell (p := ⟨b1, o1 + q * 2 + 1, none⟩) (World.block_lt_of_cell? w _ t2)).trans t2
        have q3 := (hB.cell (p := ⟨b2, o2 + q * 2, none⟩) (World.block_lt_of_cell? w _ s1)).trans s1
        have q4 := (hB.cell (p := ⟨b2, o2 + q * 2 + 1, none⟩) (World.block_lt_of_cell? w _ s2)).trans s2
        have i2 : (q : Int) < (n : Int) := by omega
        have i3 : ¬ n ≤ q := by omega
        have HX : Hid (k[q]? = some x ∧ l[q]? = some y) := ⟨hx, hy⟩
        clear hc1 hc2 hx hy t1 t2 s1 s2
        obtain ⟨nm, iv⟩ := x
        obtain ⟨nm2, iv2⟩ := y
        simp only at q1 q2 q3 q4
        by_cases hxy : nm = nm2 ∧ iv = iv2
        · obtain ⟨rfl, rfl⟩ := hxy
          go_wp2_with fail
          go_quiet (fail)
          go_wp2_with fail
          go_roundw
          case rel => exact ⟨q + 1, by omega, by simp, by rw [List.take_add_one, List.take_add_one, HX.out.1, HX.out.2, H.out.1], below_drewR H.out.2 _⟩
          case measure => simp [intOf]; omega
        · have hne : R = false := by
            rw [HR.out]
            refine decide_eq_false (fun e => hxy ?_)
            have := HX.out.1
            rw [e, HX.out.2] at this
            cases this
            exact ⟨rfl, rfl⟩
          subst hne
          clear HR
          by_cases hnn : nm = nm2
          · subst hnn
            have hii : (iv == iv2) = false := beq_eq_false_iff_ne.2 (fun e => hxy ⟨rfl, e⟩)
            clear hxy
            go_wp2_with fail
            go_quiet (fail)
            go_wp2_with fail
            go_ret
            exact ⟨rfl, below_drewR H.out.2 _⟩
          · have hii : (nm.toList == nm2.toList) = false := beq_eq_false_iff_ne.2 (fun e => hnn (by rw [ByteArray.toList_eq, ByteArray.toList_eq] at e; exact ByteArray.ext (Array.toList_inj.1 e)))
            clear hxy
            go_wp2_with fail

            go_quiet (fail)
            go_wp2_with fail
            go_ret
            exact ⟨rfl, below_drewR H.out.2 _⟩
      · obtain rfl : q = n := by omega
        have i2 : ¬ (q : Int) < (q : Int) := by omega
        have hne : R = true := by
          rw [HR.out]
          refine decide_eq_true ?_
          have := H.out.1
          rwa [List.take_of_length_le (by omega), List.take_of_length_le (by omega)] at this
        subst hne
        clear HR
        go_wp2
        go_ret
        exact ⟨rfl, H.out.2⟩
  · have hne : decide (k = l) = false := decide_eq_false (fun e => hnm (by rw [← hkl, ← hll, e]))
    rw [hne]
    have i1 : ¬ (n : Int) = (m : Int) := by omega
    go_enter Try.func18, Try.ntmps18
    go_wp2
    go_ret
    exact ⟨rfl, Below.refl _ _⟩
end Go.Proofs.Ytiafhbpklddlnaa
