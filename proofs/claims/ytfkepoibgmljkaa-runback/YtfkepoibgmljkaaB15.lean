import Derived.Test.YtfkepoibgmljkaaB13
import Derived.Test.YtfkepoibgmljkaaB14
/- The walk of joinTwo. -/
namespace Go.Proofs.Ytfkepoibgmljkaa
open Go.RowKit Go.Shelf Go.Maps

attribute [local go_sem] Oper.semAt_some

def sliceLen : Value → Nat
  | .slice _ n _ => n
  | _ => 0
theorem prV_tail {W : World} {b o k c : Nat} {l : List Pr} (h : PrV W (some ⟨b, o, none⟩) k c l) (hk : 0 < k) : PrV W (some ⟨b, o + 2, none⟩) (k - 1) (c - 1) (l.drop 1) := by
  refine ⟨⟨by rw [List.length_drop, h.prs.1], fun h0 => ?_⟩, fun e => (by cases e), (by have := h.cap; omega)⟩
  obtain ⟨b', o', e, hc⟩ := h.prs.2 hk
  cases e
  refine ⟨b, o + 2, rfl, fun j p hj => ?_⟩
  have := hc (j + 1) p (by rw [List.getElem?_drop] at hj; rw [Nat.add_comm]; exact hj)
  rw [show o + (j + 1) * 2 = o + 2 + j * 2 by omega] at this
  exact this
theorem prV_last {W : World} {b o k c : Nat} {l : List Pr} (h : PrV W (some ⟨b, o, none⟩) k c l) (hk : 0 < k) (hc : c = 1) : PrV W (some ⟨b, o, none⟩) (k - 1) (c - 1) (l.drop 1) := by
  have h1 := h.cap
  have h2 : k = 1 := by omega
  subst h2
  exact ⟨⟨by rw [List.length_drop, h.prs.1], fun h0 => (by omega)⟩, fun e => (by cases e), (by omega)⟩
abbrev zP : Obj := .cells #[.int .u64 0, .int .u64 0] 32
theorem vb_drew {B : Nat} {w W : World} (h : Below B w W) : Below B w W.drew := ⟨h.os, h.tape, h.output, h.size, h.block⟩
set_option maxRecDepth 100000 in
set_option maxHeartbeats 4000000 in
theorem joinTwo_any (w : World) (a a2 : Option Addr) (n c n2 c2 : Nat) (l m : List Pr) (hl : PrV w a n c l) (hm : PrV w a2 n2 c2 m) (hn : n ≤ 100000000) (hn2 : n2 ≤ 100000000) :
    Calls Try.prog 42 #[.slice a n c, .slice a2 n2 c2] w fun e w' => ∃ ad k c', e = .returned (.slice ad k c') ∧ PrV w' ad k c' (joinL l m) ∧ Below w.heap.size w w' := by
  have hmx : Try.prog.follows .mixedOrders = true := by kernel_rfl
  have HL : Hid (PrV w a n c l ∧ PrV w a2 n2 c2 m ∧ l.length = n ∧ m.length = n2) := ⟨hl, hm, hl.prs.1, hm.prs.1⟩
  clear hl hm
  go_enter Try.func42, Try.ntmps42
  obtain ⟨i0, hi, hz0, hz1, hz2⟩ := info_parts infoPr
  have hu := Try.underlying25
  go_wp2_with (at_make; refine wpList_make_own _ rfl _ _ 25 rfl w.heap.size 32 i0 _ 2 hu hi hz0 hz1 _ _ _ (n + n2) rfl (by first | rfl | (congr 1)) (by omega) (by rw [hz2]; omega) (by unfold maxLen; omega) (Nat.le_refl _) ?_; intro w1 hown1 hg1; have H1 : Hid (w1.ownsRow w.heap.size 32 2 (.slice (some ⟨w.heap.size, 0, none⟩) 0 (n + n2)) 0 (prCells []) ∧ Below w.heap.size w w1) := ⟨hown1, (Below.refl _ _).grown hg1 (Nat.le_refl _) (by simp)⟩; clear hown1 hg1)
  clear hi hz0 hz1 hz2 hu
  go_loopw [0, 1, 5] (fun v v2 u wr => ∃ (i j k : Nat) (ax ax2 ad : Option Addr) (cx cx2 cap : Nat), i ≤ n ∧ j ≤ n2 ∧ k ≤ i + j ∧ v = .slice ax (n - i) cx ∧ v2 = .slice ax2 (n2 - j) cx2 ∧ u = .slice ad k cap ∧ Hid ((∀ Y, Below w.heap.size w Y → PrV Y ax (n - i) cx (l.drop i)) ∧ (∀ Y, Below w.heap.size w Y → PrV Y ax2 (n2 - j) cx2 (m.drop j)) ∧ ∃ A, wr.ownsRow w.heap.size 32 2 (.slice ad k cap) k (prCells A) ∧ joinL l m = A ++ joinL (l.drop i) (m.drop j) ∧ Below w.heap.size w wr)) (fun v v2 _ _ => sliceLen v + sliceLen v2)
  case atStart => exact ⟨0, 0, 0, a, a2, _, c, c2, _, Nat.zero_le _, Nat.zero_le _, Nat.le_refl _, rfl, rfl, rfl, fun Y hY => HL.out.1.kept hY, fun Y hY => HL.out.2.1.kept hY, [], H1.out.1, rfl, H1.out.2⟩
  case round =>
    clear H1
    obtain ⟨i, j, k, ax, ax2, ad, cx, cx2, cap, hi, hj, hk, rfl, rfl, rfl, H⟩ := hrel
    by_cases hij : i < n ∧ j < n2
    · obtain ⟨⟨x, y⟩, hx⟩ : ∃ x, l[i]? = some x := ⟨_, List.getElem?_eq_getElem (by rw [HL.out.2.2.1]; exact hij.1)⟩
      obtain ⟨⟨u, v⟩, hv⟩ : ∃ x, m[j]? = some x := ⟨_, List.getElem?_eq_getElem (by rw [HL.out.2.2.2]; exact hij.2)⟩
      obtain ⟨b1, o1, rfl, hc1⟩ := (H.out.1 wr H.out.2.2.choose_spec.2.2).prs.2 (by omega)
      obtain ⟨b2, o2, rfl, hc2⟩ := (H.out.2.1 wr H.out.2.2.choose_spec.2.2).prs.2 (by omega)
      obtain ⟨t1, t2⟩ := hc1 0 (x, y) (by rw [List.getElem?_drop]; exact hx)
      obtain ⟨t3, t4⟩ := hc2 0 (u, v) (by rw [List.getElem?_drop]; exact hv)
      simp only [Nat.zero_mul, Nat.add_zero] at t1 t2 t3 t4
      have hd1 := drop_getV hx
      have hd2 := drop_getV hv
      have HD : Hid (l.drop i = (x, y) :: l.drop (i + 1) ∧ m.drop j = (u, v) :: m.drop (j + 1) ∧ (l.drop i).drop 1 = l.drop (i + 1) ∧ (m.drop j).drop 1 = m.drop (j + 1)) := ⟨hd1, hd2, by rw [List.drop_drop], by rw [List.drop_drop]⟩
      have i1 : (0 : Int) < ((n - i : Nat) : Int) := by omega
      have i2 : (0 : Int) < ((n2 - j : Nat) : Int) := by omega
      have i3 : 0 < n - i := by omega
      have i4 : 0 < n2 - j := by omega
      clear hc1 hc2 hd1 hd2 hx hv
      go_upto_region 3 with fail
      have HC4 : Hid (∀ Y, Below wr.heap.size wr Y → Y.cell? ⟨b1, o1, none⟩ = some (.int .u64 (x : Int)) ∧ Y.cell? ⟨b1, o1 + 1, none⟩ = some (.int .u64 (y : Int)) ∧ Y.cell? ⟨b2, o2, none⟩ = some (.int .u64 (u : Int)) ∧ Y.cell? ⟨b2, o2 + 1, none⟩ = some (.int .u64 (v : Int))) := fun Y hY =>
        ⟨(hY.cell (p := ⟨b1, o1, none⟩) (World.block_lt_of_cell? wr _ t1)).trans t1, (hY.cell (p := ⟨b1, o1 + 1, none⟩) (World.block_lt_of_cell? wr _ t2)).trans t2, (hY.cell (p := ⟨b2, o2, none⟩) (World.block_lt_of_cell? wr _ t3)).trans t3, (hY.cell (p := ⟨b2, o2 + 1, none⟩) (World.block_lt_of_cell? wr _ t4)).trans t4⟩
      have hB0 : Below wr.heap.size wr wr.drew := vb_drew (Below.refl _ _)
      have hBa : Below wr.heap.size wr (wr.alloc zP).drew := vb_drew ((Below.refl _ _).alloc (Nat.le_refl _) _)
      have hBb : Below wr.heap.size wr ((wr.alloc zP).alloc zP).drew := vb_drew (((Below.refl _ _).alloc (Nat.le_refl _) _).alloc (by simp) _)
      have hza : BoxV ((wr.alloc zP).alloc zP).drew wr.heap.size 0 0 := (Below.heap_alloc _ _ _ (by simp)).trans (BoxV.new wr 0 0)
      have hzb : BoxV ((wr.alloc zP).alloc zP).drew (wr.heap.size + 1) 0 0 := by
        have := BoxV.new (wr.alloc zP) 0 0
        rw [World.size_alloc] at this
        exact this
      clear t1 t2 t3 t4
      refine wp_region_G (S := SB 1000 (fun _ => True) (fun Y => Below wr.heap.size wr Y)) hmx ?_
      have hSB : SB 1000 (fun _ => True) (fun Y => Below wr.heap.size wr Y) (Array.replicate 10 false) wr.drew := SB.on trivial hB0
      refine wpAnyG_takeP (i := 0) (v := ?_) rfl (by kernel_rfl) (by kernel_rfl) (by kernel_rfl) (fun _ _ _ h => h) rfl (Or.inl ⟨by rfl, ?_⟩) (by assumption) ?_
      rotate_left
      · intro Y _; go_simp; try with_reducible rfl
      intro hSB0
      try simp only [Act.put, List.getElem_toArray, List.getElem_cons_zero, List.setIfInBounds_toArray, List.set_cons_zero, List.set_cons_succ]
      refine wpAnyG_takeP (i := 1) (v := ?_) rfl (by kernel_rfl) (by kernel_rfl) (by kernel_rfl) (fun _ _ _ h => h) rfl (Or.inl ⟨by rfl, ?_⟩) (by assumption) ?_
      rotate_left
      · intro Y _; go_simp; try with_reducible rfl
      intro hSB1
      try simp only [Act.put, List.getElem_toArray, List.getElem_cons_zero, List.getElem_cons_succ, List.setIfInBounds_toArray, List.set_cons_zero, List.set_cons_succ]
      refine wpAnyG_takeP (i := 2) (v := ?_) rfl (by kernel_rfl) (by kernel_rfl) (by kernel_rfl) (fun _ _ _ h => h) rfl (Or.inl ⟨by rfl, ?_⟩) (by assumption) ?_
      rotate_left
      · intro Y hY; obtain ⟨y1, y2, y3, y4⟩ := HC4.out Y hY; go_simp; try with_reducible rfl
      intro hSB2
      try simp only [Act.put, List.getElem_toArray, List.getElem_cons_zero, List.getElem_cons_succ, List.setIfInBounds_toArray, List.set_cons_zero, List.set_cons_succ]
      refine wpAnyG_takeP (i := 3) (v := ?_) rfl (by kernel_rfl) (by kernel_rfl) (by kernel_rfl) (fun _ _ _ h => h) rfl (Or.inl ⟨by rfl, ?_⟩) (by assumption) ?_
      rotate_left
      · intro Y _; go_simp; try with_reducible rfl
      intro hSB3
      try simp only [Act.put, List.getElem_toArray, List.getElem_cons_zero, List.getElem_cons_succ, List.setIfInBounds_toArray, List.set_cons_zero, List.set_cons_succ]
      refine wpAnyG_takeP (i := 4) (v := ?_) rfl (by kernel_rfl) (by kernel_rfl) (by kernel_rfl) (fun _ _ _ h => h) rfl (Or.inl ⟨by rfl, ?_⟩) (by assumption) ?_
      rotate_left
      · intro Y _; go_simp; try with_reducible rfl
      intro hSB4
      try simp only [Act.put, List.getElem_toArray, List.getElem_cons_zero, List.getElem_cons_succ, List.setIfInBounds_toArray, List.set_cons_zero, List.set_cons_succ]
      refine wpAnyG_takeP (i := 5) (v := ?_) rfl (by kernel_rfl) (by kernel_rfl) (by kernel_rfl) (fun _ _ _ h => h) rfl (Or.inl ⟨by rfl, ?_⟩) (by assumption) ?_
      rotate_left
      · intro Y hY; obtain ⟨y1, y2, y3, y4⟩ := HC4.out Y hY; go_simp; try with_reducible rfl
      intro hSB5
      try simp only [Act.put, List.getElem_toArray, List.getElem_cons_zero, List.getElem_cons_succ, List.setIfInBounds_toArray, List.set_cons_zero, List.set_cons_succ]
      refine wpAnyG_two (i := 6) (j := 7) (by kernel_rfl) rfl rfl (fun K hK => ?_) (fun K hK => ?_)
      · go_simp
        refine hK.out _ _ (SB.on trivial hBa) (fun hSB6 => ?_)
        clear hK K
        try simp only [Act.put, List.getElem_toArray, List.getElem_cons_zero, List.getElem_cons_succ, List.setIfInBounds_toArray, List.set_cons_zero, List.set_cons_succ]
        refine wpAnyG_one (i := 7) (by kernel_rfl) rfl (fun K hK => ?_)
        go_simp
        refine hK.out _ _ (SB.on trivial hBb) (fun hSB7 => ?_)
        clear hK K
        try simp only [Act.put, List.getElem_toArray, List.getElem_cons_zero, List.getElem_cons_succ, List.setIfInBounds_toArray, List.set_cons_zero, List.set_cons_succ]
        have hBc : Below wr.heap.size wr ((wr.alloc (.cells #[.int .u64 (x : Int), .int .u64 (y : Int)] 32)).alloc zP).drew := vb_drew (((Below.refl _ _).alloc (Nat.le_refl _) _).alloc (by simp) _)
        have hBd : Below wr.heap.size wr ((wr.alloc (.cells #[.int .u64 (x : Int), .int .u64 (y : Int)] 32)).alloc (.cells #[.int .u64 (u : Int), .int .u64 (v : Int)] 32)).drew := vb_drew (((Below.refl _ _).alloc (Nat.le_refl _) _).alloc (by simp) _)
        refine wpAnyG_one (i := 8) (by kernel_rfl) rfl (fun K hK => ?_)
        go_simp
        refine hK.out _ _ (SB.on trivial hBc) (fun hSB8 => ?_)
        clear hK K
        try simp only [Act.put, List.getElem_toArray, List.getElem_cons_zero, List.getElem_cons_succ, List.setIfInBounds_toArray, List.set_cons_zero, List.set_cons_succ]
        refine wpAnyG_one (i := 9) (by kernel_rfl) rfl (fun K hK => ?_)
        go_simp
        refine hK.out _ _ (SB.on trivial hBd) (fun hSB9 => ?_)
        clear hK K
        try simp only [Act.put, List.getElem_toArray, List.getElem_cons_zero, List.getElem_cons_succ, List.setIfInBounds_toArray, List.set_cons_zero, List.set_cons_succ]
        refine wpAnyG_done (by kernel_rfl) ?_ _
        clear hSB hSB0 hSB1 hSB2 hSB3 hSB4 hSB5 hSB6 hSB7 hSB8 hSB9
        obtain ⟨W4, hW4, hBd, hx5, hx6, hs4⟩ : ∃ W4, W4 = ((wr.alloc (.cells #[.int .u64 (x : Int), .int .u64 (y : Int)] 32)).alloc (.cells #[.int .u64 (u : Int), .int .u64 (v : Int)] 32)).drew ∧ Below wr.heap.size wr W4 ∧ BoxV W4 (wr.heap.size) (x : Int) (y : Int) ∧ BoxV W4 (wr.heap.size + 1) (u : Int) (v : Int) ∧ W4.heap.size = wr.heap.size + 2 := by
          have q2 := BoxV.new (wr.alloc (.cells #[.int .u64 (x : Int), .int .u64 (y : Int)] 32)) (u : Int) (v : Int)
          rw [World.size_alloc] at q2
          have q1 : BoxV ((wr.alloc (.cells #[.int .u64 (x : Int), .int .u64 (y : Int)] 32)).alloc (.cells #[.int .u64 (u : Int), .int .u64 (v : Int)] 32)).drew wr.heap.size (x : Int) (y : Int) := (Below.heap_alloc _ _ _ (by simp)).trans (BoxV.new wr (x : Int) (y : Int))
          exact ⟨_, rfl, hBd, q1, q2, by simp⟩
        rw [← hW4]
        have HS4 : Hid (W4.heap.size = wr.heap.size + 2) := hs4
        clear hs4
        clear hW4 hza hzb hBb hBc hBa hB0
        obtain ⟨hp1, hp2, A, hrow, hjo, hBw⟩ := H.out
        have H4 : Hid (W4.ownsRow w.heap.size 32 2 (.slice ad k cap) k (prCells A) ∧ joinL l m = A ++ joinL (l.drop i) (m.drop j) ∧ Below w.heap.size w W4 ∧ True ∧ w.heap.size ≤ W4.heap.size) := ⟨row_keptV hrow hBd, hjo, hBw.trans (hBd.mono hBw.size), trivial, Nat.le_trans hBw.size hBd.size⟩
        have HP : Hid ((∀ Y, Below w.heap.size w Y → PrV Y (some ⟨b1, o1, none⟩) (n - i) cx (l.drop i)) ∧ (∀ Y, Below w.heap.size w Y → PrV Y (some ⟨b2, o2, none⟩) (n2 - j) cx2 (m.drop j))) := ⟨hp1, hp2⟩
        have hcp1 := (hp1 wr hBw).cap
        have hcp2 := (hp2 wr hBw).cap
        have j1 : (1 : Int) ≤ ((n - i : Nat) : Int) := by omega
        have j2 : ((n - i : Nat) : Int) ≤ (cx : Int) := by omega
        have j3 : (1 : Int) ≤ ((n2 - j : Nat) : Int) := by omega
        have j4 : ((n2 - j : Nat) : Int) ≤ (cx2 : Int) := by omega
        obtain ⟨q1, q2⟩ := hx5.cell
        obtain ⟨q3, q4⟩ := hx6.cell
        clear hp1 hp2 hrow hjo hBw H hBd HC4
        by_cases hux : u < x
        · have i5 : (u : Int) < (x : Int) := by omega
          by_cases hccx2 : cx2 = 1
          · subst hccx2
            go_upto_region 5 with fail
            refine wp_region_G (S := SB 2 (fun Y => Y.cell? ⟨wr.heap.size + 1, 0, none⟩ = some (.int .u64 (u : Int)) ∧ Y.cell? ⟨wr.heap.size + 1, 1, none⟩ = some (.int .u64 (v : Int))) (fun _ => True)) hmx ?_
            have hSB : SB 2 (fun Y => Y.cell? ⟨wr.heap.size + 1, 0, none⟩ = some (.int .u64 (u : Int)) ∧ Y.cell? ⟨wr.heap.size + 1, 1, none⟩ = some (.int .u64 (v : Int))) (fun _ => True) (Array.replicate 8 false) W4.drew := SB.on ⟨q3, q4⟩ trivial
            refine wpAnyG_takeP (i := 0) (v := ?_) rfl (by kernel_rfl) (by kernel_rfl) (by kernel_rfl) (fun _ _ _ h => h) rfl (Or.inl ⟨by rfl, ?_⟩) (by assumption) ?_
            rotate_left
            · intro Y _; go_simp; try with_reducible rfl
            intro hSB0
            try simp only [Act.put, List.getElem_toArray, List.getElem_cons_zero, List.setIfInBounds_toArray, List.set_cons_zero, List.set_cons_succ]
            refine wpAnyG_takeB (i := 1) (b := 2) (v := ?_) rfl (by kernel_rfl) (by kernel_rfl) (by kernel_rfl) (fun _ _ _ h => h) rfl (by kernel_rfl) (by rfl) (by kernel_rfl) (Or.inl ⟨by rfl, ?_⟩) (by assumption) ?_
            rotate_left
            · intro Y hY; obtain ⟨⟨y1, y2⟩, _⟩ := hY; go_simp; try with_reducible rfl
            intro hSB1
            try simp only [Act.put, List.getElem_toArray, List.getElem_cons_zero, List.getElem_cons_succ, List.setIfInBounds_toArray, List.set_cons_zero, List.set_cons_succ]
            refine wpAnyG_takeP (i := 4) (v := ?_) rfl (by kernel_rfl) (by kernel_rfl) (by kernel_rfl) (fun _ _ _ h => h) rfl (Or.inl ⟨by rfl, ?_⟩) (by assumption) ?_
            rotate_left
            · intro Y _; go_simp; try with_reducible rfl
            intro hSB4
            try simp only [Act.put, List.getElem_toArray, List.getElem_cons_zero, List.getElem_cons_succ, List.setIfInBounds_toArray, List.set_cons_zero, List.set_cons_succ]
            refine wpAnyG_takeP (i := 5) (v := ?_) rfl (by kernel_rfl) (by kernel_rfl) (by kernel_rfl) (fun _ _ _ h => h) rfl (Or.inl ⟨by rfl, ?_⟩) (by assumption) ?_
            rotate_left
            · intro Y _; go_simp; try with_reducible rfl
            intro hSB5
            try simp only [Act.put, List.getElem_toArray, List.getElem_cons_zero, List.getElem_cons_succ, List.setIfInBounds_toArray, List.set_cons_zero, List.set_cons_succ]
            refine wpAnyG_one (i := 2) (by kernel_rfl) rfl (fun K hK => ?_)
            go_simp
            refine hK.out _ _ (SB.off (by rfl) trivial) (fun hSB2 => ?_)
            clear hK K
            try simp only [Act.put, List.getElem_toArray, List.getElem_cons_zero, List.getElem_cons_succ, List.setIfInBounds_toArray, List.set_cons_zero, List.set_cons_succ]
            refine wpAnyG_one (i := 3) (by kernel_rfl) rfl (fun K hK => ?_)
            refine vstep_appP _ (by rfl) _ _ (by rfl) w.heap.size k (by have := H4.out.2.2.2.2; simp; omega) _ A (by rfl) (row_keptV H4.out.1 (vb_drew ((Below.refl _ W4).alloc (Nat.le_refl _) (.cells #[.int .u64 (u : Int), .int .u64 (v : Int)] 32)))) W4.heap.size (u, v) (by rfl) (prs_one W4 u v) (by omega) ?_
            intro ad6 c6 W6 hown6 hB6
            refine hK.out _ _ (SB.off (by rfl) trivial) (fun hSB3 => ?_)
            clear hK K
            try simp only [Act.put, List.getElem_toArray, List.getElem_cons_zero, List.getElem_cons_succ, List.setIfInBounds_toArray, List.set_cons_zero, List.set_cons_succ]
            refine wpAnyG_takeP (i := 6) (v := ?_) rfl (by kernel_rfl) (by kernel_rfl) (by kernel_rfl) (fun _ _ _ h => h) rfl (Or.inl ⟨by rfl, ?_⟩) (by assumption) ?_
            rotate_left
            · intro Y _; go_simp; try with_reducible rfl
            intro hSB6
            try simp only [Act.put, List.getElem_toArray, List.getElem_cons_zero, List.getElem_cons_succ, List.setIfInBounds_toArray, List.set_cons_zero, List.set_cons_succ]
            refine wpAnyG_takeP (i := 7) (v := ?_) rfl (by kernel_rfl) (by kernel_rfl) (by kernel_rfl) (fun _ _ _ h => h) rfl (Or.inl ⟨by rfl, ?_⟩) (by assumption) ?_
            rotate_left
            · intro Y _; go_simp; try with_reducible rfl
            intro hSB7
            try simp only [Act.put, List.getElem_toArray, List.getElem_cons_zero, List.getElem_cons_succ, List.setIfInBounds_toArray, List.set_cons_zero, List.set_cons_succ]
            refine wpAnyG_done (by kernel_rfl) ?_ _
            clear hSB hSB0 hSB1 hSB4 hSB5 hSB2 hSB3 hSB6 hSB7
            have HZ : Hid ((∀ Y, Below w.heap.size w Y → PrV Y (some ⟨b1, o1, none⟩) (n - (i)) (cx) (l.drop (i))) ∧ (∀ Y, Below w.heap.size w Y → PrV Y (some ⟨b2, o2, none⟩) (n2 - (j + 1)) (0) (m.drop (j + 1))) ∧ ∃ A, W6.ownsRow w.heap.size 32 2 (.slice ad6 (k + 1) c6) (k + 1) (prCells A) ∧ joinL l m = A ++ joinL (l.drop (i)) (m.drop (j + 1)) ∧ Below w.heap.size w W6) := by
              refine ⟨HP.out.1, (fun Y hY => by have := prV_last (HP.out.2 Y hY) (by omega) rfl; rw [HD.out.2.2.2] at this; rw [← Nat.sub_sub]; exact this), A ++ [(u, v)], hown6, ?_, H4.out.2.2.1.trans ((vb_drew (((Below.refl _ W4).alloc (Nat.le_refl _) _).mono H4.out.2.2.2.2)).trans hB6)⟩
              rw [H4.out.2.1, HD.out.1, HD.out.2.1, joinL_less hux, List.append_assoc]
              try rfl
            clear hown6 hB6 H4 HP HS4 q1 q2 q3 q4 hx5 hx6
            go_wp2
            go_roundw
            case rel => exact ⟨i, j + 1, k + 1, some ⟨b1, o1, none⟩, some ⟨b2, o2, none⟩, ad6, cx, 0, c6, by omega, by omega, by omega, rfl, by rw [show n2 - (j + 1) = 0 by omega], rfl, HZ.out⟩
            case measure => simp [sliceLen]; omega
          · skip
            go_upto_region 5 with fail
            refine wp_region_G (S := SB 2 (fun Y => Y.cell? ⟨wr.heap.size + 1, 0, none⟩ = some (.int .u64 (u : Int)) ∧ Y.cell? ⟨wr.heap.size + 1, 1, none⟩ = some (.int .u64 (v : Int))) (fun _ => True)) hmx ?_
            have hSB : SB 2 (fun Y => Y.cell? ⟨wr.heap.size + 1, 0, none⟩ = some (.int .u64 (u : Int)) ∧ Y.cell? ⟨wr.heap.size + 1, 1, none⟩ = some (.int .u64 (v : Int))) (fun _ => True) (Array.replicate 8 false) W4.drew := SB.on ⟨q3, q4⟩ trivial
            refine wpAnyG_takeP (i := 0) (v := ?_) rfl (by kernel_rfl) (by kernel_rfl) (by kernel_rfl) (fun _ _ _ h => h) rfl (Or.inl ⟨by rfl, ?_⟩) (by assumption) ?_
            rotate_left
            · intro Y _; go_simp; try with_reducible rfl
            intro hSB0
            try simp only [Act.put, List.getElem_toArray, List.getElem_cons_zero, List.setIfInBounds_toArray, List.set_cons_zero, List.set_cons_succ]
            refine wpAnyG_takeB (i := 1) (b := 2) (v := ?_) rfl (by kernel_rfl) (by kernel_rfl) (by kernel_rfl) (fun _ _ _ h => h) rfl (by kernel_rfl) (by rfl) (by kernel_rfl) (Or.inl ⟨by rfl, ?_⟩) (by assumption) ?_
            rotate_left
            · intro Y hY; obtain ⟨⟨y1, y2⟩, _⟩ := hY; go_simp; try with_reducible rfl
            intro hSB1
            try simp only [Act.put, List.getElem_toArray, List.getElem_cons_zero, List.getElem_cons_succ, List.setIfInBounds_toArray, List.set_cons_zero, List.set_cons_succ]
            refine wpAnyG_takeP (i := 4) (v := ?_) rfl (by kernel_rfl) (by kernel_rfl) (by kernel_rfl) (fun _ _ _ h => h) rfl (Or.inl ⟨by rfl, ?_⟩) (by assumption) ?_
            rotate_left
            · intro Y _; go_simp; try with_reducible rfl
            intro hSB4
            try simp only [Act.put, List.getElem_toArray, List.getElem_cons_zero, List.getElem_cons_succ, List.setIfInBounds_toArray, List.set_cons_zero, List.set_cons_succ]
            refine wpAnyG_takeP (i := 5) (v := ?_) rfl (by kernel_rfl) (by kernel_rfl) (by kernel_rfl) (fun _ _ _ h => h) rfl (Or.inl ⟨by rfl, ?_⟩) (by assumption) ?_
            rotate_left
            · intro Y _; go_simp; try with_reducible rfl
            intro hSB5
            try simp only [Act.put, List.getElem_toArray, List.getElem_cons_zero, List.getElem_cons_succ, List.setIfInBounds_toArray, List.set_cons_zero, List.set_cons_succ]
            refine wpAnyG_one (i := 2) (by kernel_rfl) rfl (fun K hK => ?_)
            go_simp
            refine hK.out _ _ (SB.off (by rfl) trivial) (fun hSB2 => ?_)
            clear hK K
            try simp only [Act.put, List.getElem_toArray, List.getElem_cons_zero, List.getElem_cons_succ, List.setIfInBounds_toArray, List.set_cons_zero, List.set_cons_succ]
            refine wpAnyG_one (i := 3) (by kernel_rfl) rfl (fun K hK => ?_)
            refine vstep_appP _ (by rfl) _ _ (by rfl) w.heap.size k (by have := H4.out.2.2.2.2; simp; omega) _ A (by rfl) (row_keptV H4.out.1 (vb_drew ((Below.refl _ W4).alloc (Nat.le_refl _) (.cells #[.int .u64 (u : Int), .int .u64 (v : Int)] 32)))) W4.heap.size (u, v) (by rfl) (prs_one W4 u v) (by omega) ?_
            intro ad6 c6 W6 hown6 hB6
            refine hK.out _ _ (SB.off (by rfl) trivial) (fun hSB3 => ?_)
            clear hK K
            try simp only [Act.put, List.getElem_toArray, List.getElem_cons_zero, List.getElem_cons_succ, List.setIfInBounds_toArray, List.set_cons_zero, List.set_cons_succ]
            refine wpAnyG_takeP (i := 6) (v := ?_) rfl (by kernel_rfl) (by kernel_rfl) (by kernel_rfl) (fun _ _ _ h => h) rfl (Or.inl ⟨by rfl, ?_⟩) (by assumption) ?_
            rotate_left
            · intro Y _; go_simp; try with_reducible rfl
            intro hSB6
            try simp only [Act.put, List.getElem_toArray, List.getElem_cons_zero, List.getElem_cons_succ, List.setIfInBounds_toArray, List.set_cons_zero, List.set_cons_succ]
            refine wpAnyG_takeP (i := 7) (v := ?_) rfl (by kernel_rfl) (by kernel_rfl) (by kernel_rfl) (fun _ _ _ h => h) rfl (Or.inl ⟨by rfl, ?_⟩) (by assumption) ?_
            rotate_left
            · intro Y _; go_simp; try with_reducible rfl
            intro hSB7
            try simp only [Act.put, List.getElem_toArray, List.getElem_cons_zero, List.getElem_cons_succ, List.setIfInBounds_toArray, List.set_cons_zero, List.set_cons_succ]
            refine wpAnyG_done (by kernel_rfl) ?_ _
            clear hSB hSB0 hSB1 hSB4 hSB5 hSB2 hSB3 hSB6 hSB7
            have HZ : Hid ((∀ Y, Below w.heap.size w Y → PrV Y (some ⟨b1, o1, none⟩) (n - (i)) (cx) (l.drop (i))) ∧ (∀ Y, Below w.heap.size w Y → PrV Y (some ⟨b2, o2 + 2, none⟩) (n2 - (j + 1)) (cx2 - 1) (m.drop (j + 1))) ∧ ∃ A, W6.ownsRow w.heap.size 32 2 (.slice ad6 (k + 1) c6) (k + 1) (prCells A) ∧ joinL l m = A ++ joinL (l.drop (i)) (m.drop (j + 1)) ∧ Below w.heap.size w W6) := by
              refine ⟨HP.out.1, (fun Y hY => by have := prV_tail (HP.out.2 Y hY) (by omega); rw [HD.out.2.2.2] at this; rw [← Nat.sub_sub]; exact this), A ++ [(u, v)], hown6, ?_, H4.out.2.2.1.trans ((vb_drew (((Below.refl _ W4).alloc (Nat.le_refl _) _).mono H4.out.2.2.2.2)).trans hB6)⟩
              rw [H4.out.2.1, HD.out.1, HD.out.2.1, joinL_less hux, List.append_assoc]
              try rfl
            clear hown6 hB6 H4 HP HS4 q1 q2 q3 q4 hx5 hx6
            go_wp2
            go_roundw
            case rel => exact ⟨i, j + 1, k + 1, some ⟨b1, o1, none⟩, some ⟨b2, o2 + 2, none⟩, ad6, cx, cx2 - 1, c6, by omega, by omega, by omega, rfl, by rw [Nat.sub_sub], rfl, HZ.out⟩
            case measure => simp [sliceLen]; omega
        · have i5 : ¬ (u : Int) < (x : Int) := by omega
          by_cases hue : u = x
          · have e5 : ((u : Int) == (x : Int)) = true := by simp [hue]
            by_cases hccx2 : cx2 = 1
            · subst hccx2
              by_cases hccx : cx = 1
              · subst hccx
                go_upto_region 8 with fail
                refine wp_region_G (S := SB 2 (fun Y => Y.cell? ⟨wr.heap.size, 0, none⟩ = some (.int .u64 (x : Int)) ∧ Y.cell? ⟨wr.heap.size, 1, none⟩ = some (.int .u64 (y : Int))) (fun _ => True)) hmx ?_
                have hSB : SB 2 (fun Y => Y.cell? ⟨wr.heap.size, 0, none⟩ = some (.int .u64 (x : Int)) ∧ Y.cell? ⟨wr.heap.size, 1, none⟩ = some (.int .u64 (y : Int))) (fun _ => True) (Array.replicate 8 false) W4.drew := SB.on ⟨q1, q2⟩ trivial
                refine wpAnyG_takeP (i := 0) (v := ?_) rfl (by kernel_rfl) (by kernel_rfl) (by kernel_rfl) (fun _ _ _ h => h) rfl (Or.inl ⟨by rfl, ?_⟩) (by assumption) ?_
                rotate_left
                · intro Y _; go_simp; try with_reducible rfl
                intro hSB0
                try simp only [Act.put, List.getElem_toArray, List.getElem_cons_zero, List.setIfInBounds_toArray, List.set_cons_zero, List.set_cons_succ]
                refine wpAnyG_takeB (i := 1) (b := 2) (v := ?_) rfl (by kernel_rfl) (by kernel_rfl) (by kernel_rfl) (fun _ _ _ h => h) rfl (by kernel_rfl) (by rfl) (by kernel_rfl) (Or.inl ⟨by rfl, ?_⟩) (by assumption) ?_
                rotate_left
                · intro Y hY; obtain ⟨⟨y1, y2⟩, _⟩ := hY; go_simp; try with_reducible rfl
                intro hSB1
                try simp only [Act.put, List.getElem_toArray, List.getElem_cons_zero, List.getElem_cons_succ, List.setIfInBounds_toArray, List.set_cons_zero, List.set_cons_succ]
                refine wpAnyG_takeP (i := 4) (v := ?_) rfl (by kernel_rfl) (by kernel_rfl) (by kernel_rfl) (fun _ _ _ h => h) rfl (Or.inl ⟨by rfl, ?_⟩) (by assumption) ?_
                rotate_left
                · intro Y _; go_simp; try with_reducible rfl
                intro hSB4
                try simp only [Act.put, List.getElem_toArray, List.getElem_cons_zero, List.getElem_cons_succ, List.setIfInBounds_toArray, List.set_cons_zero, List.set_cons_succ]
                refine wpAnyG_takeP (i := 5) (v := ?_) rfl (by kernel_rfl) (by kernel_rfl) (by kernel_rfl) (fun _ _ _ h => h) rfl (Or.inl ⟨by rfl, ?_⟩) (by assumption) ?_
                rotate_left
                · intro Y _; go_simp; try with_reducible rfl
                intro hSB5
                try simp only [Act.put, List.getElem_toArray, List.getElem_cons_zero, List.getElem_cons_succ, List.setIfInBounds_toArray, List.set_cons_zero, List.set_cons_succ]
                refine wpAnyG_one (i := 2) (by kernel_rfl) rfl (fun K hK => ?_)
                go_simp
                refine hK.out _ _ (SB.off (by rfl) trivial) (fun hSB2 => ?_)
                clear hK K
                try simp only [Act.put, List.getElem_toArray, List.getElem_cons_zero, List.getElem_cons_succ, List.setIfInBounds_toArray, List.set_cons_zero, List.set_cons_succ]
                refine wpAnyG_one (i := 3) (by kernel_rfl) rfl (fun K hK => ?_)
                refine vstep_appP _ (by rfl) _ _ (by rfl) w.heap.size k (by have := H4.out.2.2.2.2; simp; omega) _ A (by rfl) (row_keptV H4.out.1 (vb_drew ((Below.refl _ W4).alloc (Nat.le_refl _) (.cells #[.int .u64 (x : Int), .int .u64 (y : Int)] 32)))) W4.heap.size (x, y) (by rfl) (prs_one W4 x y) (by omega) ?_
                intro ad6 c6 W6 hown6 hB6
                refine hK.out _ _ (SB.off (by rfl) trivial) (fun hSB3 => ?_)
                clear hK K
                try simp only [Act.put, List.getElem_toArray, List.getElem_cons_zero, List.getElem_cons_succ, List.setIfInBounds_toArray, List.set_cons_zero, List.set_cons_succ]
                refine wpAnyG_takeP (i := 6) (v := ?_) rfl (by kernel_rfl) (by kernel_rfl) (by kernel_rfl) (fun _ _ _ h => h) rfl (Or.inl ⟨by rfl, ?_⟩) (by assumption) ?_
                rotate_left
                · intro Y _; go_simp; try with_reducible rfl
                intro hSB6
                try simp only [Act.put, List.getElem_toArray, List.getElem_cons_zero, List.getElem_cons_succ, List.setIfInBounds_toArray, List.set_cons_zero, List.set_cons_succ]
                refine wpAnyG_takeP (i := 7) (v := ?_) rfl (by kernel_rfl) (by kernel_rfl) (by kernel_rfl) (fun _ _ _ h => h) rfl (Or.inl ⟨by rfl, ?_⟩) (by assumption) ?_
                rotate_left
                · intro Y _; go_simp; try with_reducible rfl
                intro hSB7
                try simp only [Act.put, List.getElem_toArray, List.getElem_cons_zero, List.getElem_cons_succ, List.setIfInBounds_toArray, List.set_cons_zero]
                refine wpAnyG_done (by kernel_rfl) ?_ _
                clear hSB hSB0 hSB1 hSB4 hSB5 hSB2 hSB3 hSB6 hSB7
                have HZ : Hid ((∀ Y, Below w.heap.size w Y → PrV Y (some ⟨b1, o1, none⟩) (n - (i + 1)) (0) (l.drop (i + 1))) ∧ (∀ Y, Below w.heap.size w Y → PrV Y (some ⟨b2, o2, none⟩) (n2 - (j + 1)) (0) (m.drop (j + 1))) ∧ ∃ A, W6.ownsRow w.heap.size 32 2 (.slice ad6 (k + 1) c6) (k + 1) (prCells A) ∧ joinL l m = A ++ joinL (l.drop (i + 1)) (m.drop (j + 1)) ∧ Below w.heap.size w W6) := by
                  refine ⟨(fun Y hY => by have := prV_last (HP.out.1 Y hY) (by omega) rfl; rw [HD.out.2.2.1] at this; rw [← Nat.sub_sub]; exact this), (fun Y hY => by have := prV_last (HP.out.2 Y hY) (by omega) rfl; rw [HD.out.2.2.2] at this; rw [← Nat.sub_sub]; exact this), A ++ [(x, y)], hown6, ?_, H4.out.2.2.1.trans ((vb_drew (((Below.refl _ W4).alloc (Nat.le_refl _) _).mono H4.out.2.2.2.2)).trans hB6)⟩
                  rw [H4.out.2.1, HD.out.1, HD.out.2.1, joinL_same hue, List.append_assoc]
                  try rfl
                clear hown6 hB6 H4 HP HS4 q1 q2 q3 q4 hx5 hx6
                go_wp2
                go_roundw
                case rel => exact ⟨i + 1, j + 1, k + 1, some ⟨b1, o1, none⟩, some ⟨b2, o2, none⟩, ad6, 0, 0, c6, by omega, by omega, by omega, by rw [show n - (i + 1) = 0 by omega], by rw [show n2 - (j + 1) = 0 by omega], rfl, HZ.out⟩
                case measure => simp [sliceLen]; omega
              · skip
                go_upto_region 8 with fail
                refine wp_region_G (S := SB 2 (fun Y => Y.cell? ⟨wr.heap.size, 0, none⟩ = some (.int .u64 (x : Int)) ∧ Y.cell? ⟨wr.heap.size, 1, none⟩ = some (.int .u64 (y : Int))) (fun _ => True)) hmx ?_
                have hSB : SB 2 (fun Y => Y.cell? ⟨wr.heap.size, 0, none⟩ = some (.int .u64 (x : Int)) ∧ Y.cell? ⟨wr.heap.size, 1, none⟩ = some (.int .u64 (y : Int))) (fun _ => True) (Array.replicate 8 false) W4.drew := SB.on ⟨q1, q2⟩ trivial
                refine wpAnyG_takeP (i := 0) (v := ?_) rfl (by kernel_rfl) (by kernel_rfl) (by kernel_rfl) (fun _ _ _ h => h) rfl (Or.inl ⟨by rfl, ?_⟩) (by assumption) ?_
                rotate_left
                · intro Y _; go_simp; try with_reducible rfl
                intro hSB0
                try simp only [Act.put, List.getElem_toArray, List.getElem_cons_zero, List.setIfInBounds_toArray, List.set_cons_zero, List.set_cons_succ]
                refine wpAnyG_takeB (i := 1) (b := 2) (v := ?_) rfl (by kernel_rfl) (by kernel_rfl) (by kernel_rfl) (fun _ _ _ h => h) rfl (by kernel_rfl) (by rfl) (by kernel_rfl) (Or.inl ⟨by rfl, ?_⟩) (by assumption) ?_
                rotate_left
                · intro Y hY; obtain ⟨⟨y1, y2⟩, _⟩ := hY; go_simp; try with_reducible rfl
                intro hSB1
                try simp only [Act.put, List.getElem_toArray, List.getElem_cons_zero, List.getElem_cons_succ, List.setIfInBounds_toArray, List.set_cons_zero, List.set_cons_succ]
                refine wpAnyG_takeP (i := 4) (v := ?_) rfl (by kernel_rfl) (by kernel_rfl) (by kernel_rfl) (fun _ _ _ h => h) rfl (Or.inl ⟨by rfl, ?_⟩) (by assumption) ?_
                rotate_left
                · intro Y _; go_simp; try with_reducible rfl
                intro hSB4
                try simp only [Act.put, List.getElem_toArray, List.getElem_cons_zero, List.getElem_cons_succ, List.setIfInBounds_toArray, List.set_cons_zero, List.set_cons_succ]
                refine wpAnyG_takeP (i := 5) (v := ?_) rfl (by kernel_rfl) (by kernel_rfl) (by kernel_rfl) (fun _ _ _ h => h) rfl (Or.inl ⟨by rfl, ?_⟩) (by assumption) ?_
                rotate_left
                · intro Y _; go_simp; try with_reducible rfl
                intro hSB5
                try simp only [Act.put, List.getElem_toArray, List.getElem_cons_zero, List.getElem_cons_succ, List.setIfInBounds_toArray, List.set_cons_zero, List.set_cons_succ]
                refine wpAnyG_one (i := 2) (by kernel_rfl) rfl (fun K hK => ?_)
                go_simp
                refine hK.out _ _ (SB.off (by rfl) trivial) (fun hSB2 => ?_)
                clear hK K
                try simp only [Act.put, List.getElem_toArray, List.getElem_cons_zero, List.getElem_cons_succ, List.setIfInBounds_toArray, List.set_cons_zero, List.set_cons_succ]
                refine wpAnyG_one (i := 3) (by kernel_rfl) rfl (fun K hK => ?_)
                refine vstep_appP _ (by rfl) _ _ (by rfl) w.heap.size k (by have := H4.out.2.2.2.2; simp; omega) _ A (by rfl) (row_keptV H4.out.1 (vb_drew ((Below.refl _ W4).alloc (Nat.le_refl _) (.cells #[.int .u64 (x : Int), .int .u64 (y : Int)] 32)))) W4.heap.size (x, y) (by rfl) (prs_one W4 x y) (by omega) ?_
                intro ad6 c6 W6 hown6 hB6
                refine hK.out _ _ (SB.off (by rfl) trivial) (fun hSB3 => ?_)
                clear hK K
                try simp only [Act.put, List.getElem_toArray, List.getElem_cons_zero, List.getElem_cons_succ, List.setIfInBounds_toArray, List.set_cons_zero, List.set_cons_succ]
                refine wpAnyG_takeP (i := 6) (v := ?_) rfl (by kernel_rfl) (by kernel_rfl) (by kernel_rfl) (fun _ _ _ h => h) rfl (Or.inl ⟨by rfl, ?_⟩) (by assumption) ?_
                rotate_left
                · intro Y _; go_simp; try with_reducible rfl
                intro hSB6
                try simp only [Act.put, List.getElem_toArray, List.getElem_cons_zero, List.getElem_cons_succ, List.setIfInBounds_toArray, List.set_cons_zero, List.set_cons_succ]
                refine wpAnyG_takeP (i := 7) (v := ?_) rfl (by kernel_rfl) (by kernel_rfl) (by kernel_rfl) (fun _ _ _ h => h) rfl (Or.inl ⟨by rfl, ?_⟩) (by assumption) ?_
                rotate_left
                · intro Y _; go_simp; try with_reducible rfl
                intro hSB7
                try simp only [Act.put, List.getElem_toArray, List.getElem_cons_zero, List.getElem_cons_succ, List.setIfInBounds_toArray, List.set_cons_zero]
                refine wpAnyG_done (by kernel_rfl) ?_ _
                clear hSB hSB0 hSB1 hSB4 hSB5 hSB2 hSB3 hSB6 hSB7
                have HZ : Hid ((∀ Y, Below w.heap.size w Y → PrV Y (some ⟨b1, o1 + 2, none⟩) (n - (i + 1)) (cx - 1) (l.drop (i + 1))) ∧ (∀ Y, Below w.heap.size w Y → PrV Y (some ⟨b2, o2, none⟩) (n2 - (j + 1)) (0) (m.drop (j + 1))) ∧ ∃ A, W6.ownsRow w.heap.size 32 2 (.slice ad6 (k + 1) c6) (k + 1) (prCells A) ∧ joinL l m = A ++ joinL (l.drop (i + 1)) (m.drop (j + 1)) ∧ Below w.heap.size w W6) := by
                  refine ⟨(fun Y hY => by have := prV_tail (HP.out.1 Y hY) (by omega); rw [HD.out.2.2.1] at this; rw [← Nat.sub_sub]; exact this), (fun Y hY => by have := prV_last (HP.out.2 Y hY) (by omega) rfl; rw [HD.out.2.2.2] at this; rw [← Nat.sub_sub]; exact this), A ++ [(x, y)], hown6, ?_, H4.out.2.2.1.trans ((vb_drew (((Below.refl _ W4).alloc (Nat.le_refl _) _).mono H4.out.2.2.2.2)).trans hB6)⟩
                  rw [H4.out.2.1, HD.out.1, HD.out.2.1, joinL_same hue, List.append_assoc]
                  try rfl
                clear hown6 hB6 H4 HP HS4 q1 q2 q3 q4 hx5 hx6
                go_wp2
                go_roundw
                case rel => exact ⟨i + 1, j + 1, k + 1, some ⟨b1, o1 + 2, none⟩, some ⟨b2, o2, none⟩, ad6, cx - 1, 0, c6, by omega, by omega, by omega, by rw [Nat.sub_sub], by rw [show n2 - (j + 1) = 0 by omega], rfl, HZ.out⟩
                case measure => simp [sliceLen]; omega
            · skip
              by_cases hccx : cx = 1
              · subst hccx
                go_upto_region 8 with fail
                refine wp_region_G (S := SB 2 (fun Y => Y.cell? ⟨wr.heap.size, 0, none⟩ = some (.int .u64 (x : Int)) ∧ Y.cell? ⟨wr.heap.size, 1, none⟩ = some (.int .u64 (y : Int))) (fun _ => True)) hmx ?_
                have hSB : SB 2 (fun Y => Y.cell? ⟨wr.heap.size, 0, none⟩ = some (.int .u64 (x : Int)) ∧ Y.cell? ⟨wr.heap.size, 1, none⟩ = some (.int .u64 (y : Int))) (fun _ => True) (Array.replicate 8 false) W4.drew := SB.on ⟨q1, q2⟩ trivial
                refine wpAnyG_takeP (i := 0) (v := ?_) rfl (by kernel_rfl) (by kernel_rfl) (by kernel_rfl) (fun _ _ _ h => h) rfl (Or.inl ⟨by rfl, ?_⟩) (by assumption) ?_
                rotate_left
                · intro Y _; go_simp; try with_reducible rfl
                intro hSB0
                try simp only [Act.put, List.getElem_toArray, List.getElem_cons_zero, List.setIfInBounds_toArray, List.set_cons_zero, List.set_cons_succ]
                refine wpAnyG_takeB (i := 1) (b := 2) (v := ?_) rfl (by kernel_rfl) (by kernel_rfl) (by kernel_rfl) (fun _ _ _ h => h) rfl (by kernel_rfl) (by rfl) (by kernel_rfl) (Or.inl ⟨by rfl, ?_⟩) (by assumption) ?_
                rotate_left
                · intro Y hY; obtain ⟨⟨y1, y2⟩, _⟩ := hY; go_simp; try with_reducible rfl
                intro hSB1
                try simp only [Act.put, List.getElem_toArray, List.getElem_cons_zero, List.getElem_cons_succ, List.setIfInBounds_toArray, List.set_cons_zero, List.set_cons_succ]
                refine wpAnyG_takeP (i := 4) (v := ?_) rfl (by kernel_rfl) (by kernel_rfl) (by kernel_rfl) (fun _ _ _ h => h) rfl (Or.inl ⟨by rfl, ?_⟩) (by assumption) ?_
                rotate_left
                · intro Y _; go_simp; try with_reducible rfl
                intro hSB4
                try simp only [Act.put, List.getElem_toArray, List.getElem_cons_zero, List.getElem_cons_succ, List.setIfInBounds_toArray, List.set_cons_zero, List.set_cons_succ]
                refine wpAnyG_takeP (i := 5) (v := ?_) rfl (by kernel_rfl) (by kernel_rfl) (by kernel_rfl) (fun _ _ _ h => h) rfl (Or.inl ⟨by rfl, ?_⟩) (by assumption) ?_
                rotate_left
                · intro Y _; go_simp; try with_reducible rfl
                intro hSB5
                try simp only [Act.put, List.getElem_toArray, List.getElem_cons_zero, List.getElem_cons_succ, List.setIfInBounds_toArray, List.set_cons_zero, List.set_cons_succ]
                refine wpAnyG_one (i := 2) (by kernel_rfl) rfl (fun K hK => ?_)
                go_simp
                refine hK.out _ _ (SB.off (by rfl) trivial) (fun hSB2 => ?_)
                clear hK K
                try simp only [Act.put, List.getElem_toArray, List.getElem_cons_zero, List.getElem_cons_succ, List.setIfInBounds_toArray, List.set_cons_zero, List.set_cons_succ]
                refine wpAnyG_one (i := 3) (by kernel_rfl) rfl (fun K hK => ?_)
                refine vstep_appP _ (by rfl) _ _ (by rfl) w.heap.size k (by have := H4.out.2.2.2.2; simp; omega) _ A (by rfl) (row_keptV H4.out.1 (vb_drew ((Below.refl _ W4).alloc (Nat.le_refl _) (.cells #[.int .u64 (x : Int), .int .u64 (y : Int)] 32)))) W4.heap.size (x, y) (by rfl) (prs_one W4 x y) (by omega) ?_
                intro ad6 c6 W6 hown6 hB6
                refine hK.out _ _ (SB.off (by rfl) trivial) (fun hSB3 => ?_)
                clear hK K
                try simp only [Act.put, List.getElem_toArray, List.getElem_cons_zero, List.getElem_cons_succ, List.setIfInBounds_toArray, List.set_cons_zero, List.set_cons_succ]
                refine wpAnyG_takeP (i := 6) (v := ?_) rfl (by kernel_rfl) (by kernel_rfl) (by kernel_rfl) (fun _ _ _ h => h) rfl (Or.inl ⟨by rfl, ?_⟩) (by assumption) ?_
                rotate_left
                · intro Y _; go_simp; try with_reducible rfl
                intro hSB6
                try simp only [Act.put, List.getElem_toArray, List.getElem_cons_zero, List.getElem_cons_succ, List.setIfInBounds_toArray, List.set_cons_zero, List.set_cons_succ]
                refine wpAnyG_takeP (i := 7) (v := ?_) rfl (by kernel_rfl) (by kernel_rfl) (by kernel_rfl) (fun _ _ _ h => h) rfl (Or.inl ⟨by rfl, ?_⟩) (by assumption) ?_
                rotate_left
                · intro Y _; go_simp; try with_reducible rfl
                intro hSB7
                try simp only [Act.put, List.getElem_toArray, List.getElem_cons_zero, List.getElem_cons_succ, List.setIfInBounds_toArray, List.set_cons_zero]
                refine wpAnyG_done (by kernel_rfl) ?_ _
                clear hSB hSB0 hSB1 hSB4 hSB5 hSB2 hSB3 hSB6 hSB7
                have HZ : Hid ((∀ Y, Below w.heap.size w Y → PrV Y (some ⟨b1, o1, none⟩) (n - (i + 1)) (0) (l.drop (i + 1))) ∧ (∀ Y, Below w.heap.size w Y → PrV Y (some ⟨b2, o2 + 2, none⟩) (n2 - (j + 1)) (cx2 - 1) (m.drop (j + 1))) ∧ ∃ A, W6.ownsRow w.heap.size 32 2 (.slice ad6 (k + 1) c6) (k + 1) (prCells A) ∧ joinL l m = A ++ joinL (l.drop (i + 1)) (m.drop (j + 1)) ∧ Below w.heap.size w W6) := by
                  refine ⟨(fun Y hY => by have := prV_last (HP.out.1 Y hY) (by omega) rfl; rw [HD.out.2.2.1] at this; rw [← Nat.sub_sub]; exact this), (fun Y hY => by have := prV_tail (HP.out.2 Y hY) (by omega); rw [HD.out.2.2.2] at this; rw [← Nat.sub_sub]; exact this), A ++ [(x, y)], hown6, ?_, H4.out.2.2.1.trans ((vb_drew (((Below.refl _ W4).alloc (Nat.le_refl _) _).mono H4.out.2.2.2.2)).trans hB6)⟩
                  rw [H4.out.2.1, HD.out.1, HD.out.2.1, joinL_same hue, List.append_assoc]
                  try rfl
                clear hown6 hB6 H4 HP HS4 q1 q2 q3 q4 hx5 hx6
                go_wp2
                go_roundw
                case rel => exact ⟨i + 1, j + 1, k + 1, some ⟨b1, o1, none⟩, some ⟨b2, o2 + 2, none⟩, ad6, 0, cx2 - 1, c6, by omega, by omega, by omega, by rw [show n - (i + 1) = 0 by omega], by rw [Nat.sub_sub], rfl, HZ.out⟩
                case measure => simp [sliceLen]; omega
              · skip
                go_upto_region 8 with fail
                refine wp_region_G (S := SB 2 (fun Y => Y.cell? ⟨wr.heap.size, 0, none⟩ = some (.int .u64 (x : Int)) ∧ Y.cell? ⟨wr.heap.size, 1, none⟩ = some (.int .u64 (y : Int))) (fun _ => True)) hmx ?_
                have hSB : SB 2 (fun Y => Y.cell? ⟨wr.heap.size, 0, none⟩ = some (.int .u64 (x : Int)) ∧ Y.cell? ⟨wr.heap.size, 1, none⟩ = some (.int .u64 (y : Int))) (fun _ => True) (Array.replicate 8 false) W4.drew := SB.on ⟨q1, q2⟩ trivial
                refine wpAnyG_takeP (i := 0) (v := ?_) rfl (by kernel_rfl) (by kernel_rfl) (by kernel_rfl) (fun _ _ _ h => h) rfl (Or.inl ⟨by rfl, ?_⟩) (by assumption) ?_
                rotate_left
                · intro Y _; go_simp; try with_reducible rfl
                intro hSB0
                try simp only [Act.put, List.getElem_toArray, List.getElem_cons_zero, List.setIfInBounds_toArray, List.set_cons_zero, List.set_cons_succ]
                refine wpAnyG_takeB (i := 1) (b := 2) (v := ?_) rfl (by kernel_rfl) (by kernel_rfl) (by kernel_rfl) (fun _ _ _ h => h) rfl (by kernel_rfl) (by rfl) (by kernel_rfl) (Or.inl ⟨by rfl, ?_⟩) (by assumption) ?_
                rotate_left
                · intro Y hY; obtain ⟨⟨y1, y2⟩, _⟩ := hY; go_simp; try with_reducible rfl
                intro hSB1
                try simp only [Act.put, List.getElem_toArray, List.getElem_cons_zero, List.getElem_cons_succ, List.setIfInBounds_toArray, List.set_cons_zero, List.set_cons_succ]
                refine wpAnyG_takeP (i := 4) (v := ?_) rfl (by kernel_rfl) (by kernel_rfl) (by kernel_rfl) (fun _ _ _ h => h) rfl (Or.inl ⟨by rfl, ?_⟩) (by assumption) ?_
                rotate_left
                · intro Y _; go_simp; try with_reducible rfl
                intro hSB4
                try simp only [Act.put, List.getElem_toArray, List.getElem_cons_zero, List.getElem_cons_succ, List.setIfInBounds_toArray, List.set_cons_zero, List.set_cons_succ]
                refine wpAnyG_takeP (i := 5) (v := ?_) rfl (by kernel_rfl) (by kernel_rfl) (by kernel_rfl) (fun _ _ _ h => h) rfl (Or.inl ⟨by rfl, ?_⟩) (by assumption) ?_
                rotate_left
                · intro Y _; go_simp; try with_reducible rfl
                intro hSB5
                try simp only [Act.put, List.getElem_toArray, List.getElem_cons_zero, List.getElem_cons_succ, List.setIfInBounds_toArray, List.set_cons_zero, List.set_cons_succ]
                refine wpAnyG_one (i := 2) (by kernel_rfl) rfl (fun K hK => ?_)
                go_simp
                refine hK.out _ _ (SB.off (by rfl) trivial) (fun hSB2 => ?_)
                clear hK K
                try simp only [Act.put, List.getElem_toArray, List.getElem_cons_zero, List.getElem_cons_succ, List.setIfInBounds_toArray, List.set_cons_zero, List.set_cons_succ]
                refine wpAnyG_one (i := 3) (by kernel_rfl) rfl (fun K hK => ?_)
                refine vstep_appP _ (by rfl) _ _ (by rfl) w.heap.size k (by have := H4.out.2.2.2.2; simp; omega) _ A (by rfl) (row_keptV H4.out.1 (vb_drew ((Below.refl _ W4).alloc (Nat.le_refl _) (.cells #[.int .u64 (x : Int), .int .u64 (y : Int)] 32)))) W4.heap.size (x, y) (by rfl) (prs_one W4 x y) (by omega) ?_
                intro ad6 c6 W6 hown6 hB6
                refine hK.out _ _ (SB.off (by rfl) trivial) (fun hSB3 => ?_)
                clear hK K
                try simp only [Act.put, List.getElem_toArray, List.getElem_cons_zero, List.getElem_cons_succ, List.setIfInBounds_toArray, List.set_cons_zero, List.set_cons_succ]
                refine wpAnyG_takeP (i := 6) (v := ?_) rfl (by kernel_rfl) (by kernel_rfl) (by kernel_rfl) (fun _ _ _ h => h) rfl (Or.inl ⟨by rfl, ?_⟩) (by assumption) ?_
                rotate_left
                · intro Y _; go_simp; try with_reducible rfl
                intro hSB6
                try simp only [Act.put, List.getElem_toArray, List.getElem_cons_zero, List.getElem_cons_succ, List.setIfInBounds_toArray, List.set_cons_zero, List.set_cons_succ]
                refine wpAnyG_takeP (i := 7) (v := ?_) rfl (by kernel_rfl) (by kernel_rfl) (by kernel_rfl) (fun _ _ _ h => h) rfl (Or.inl ⟨by rfl, ?_⟩) (by assumption) ?_
                rotate_left
                · intro Y _; go_simp; try with_reducible rfl
                intro hSB7
                try simp only [Act.put, List.getElem_toArray, List.getElem_cons_zero, List.getElem_cons_succ, List.setIfInBounds_toArray, List.set_cons_zero]
                refine wpAnyG_done (by kernel_rfl) ?_ _
                clear hSB hSB0 hSB1 hSB4 hSB5 hSB2 hSB3 hSB6 hSB7
                have HZ : Hid ((∀ Y, Below w.heap.size w Y → PrV Y (some ⟨b1, o1 + 2, none⟩) (n - (i + 1)) (cx - 1) (l.drop (i + 1))) ∧ (∀ Y, Below w.heap.size w Y → PrV Y (some ⟨b2, o2 + 2, none⟩) (n2 - (j + 1)) (cx2 - 1) (m.drop (j + 1))) ∧ ∃ A, W6.ownsRow w.heap.size 32 2 (.slice ad6 (k + 1) c6) (k + 1) (prCells A) ∧ joinL l m = A ++ joinL (l.drop (i + 1)) (m.drop (j + 1)) ∧ Below w.heap.size w W6) := by
                  refine ⟨(fun Y hY => by have := prV_tail (HP.out.1 Y hY) (by omega); rw [HD.out.2.2.1] at this; rw [← Nat.sub_sub]; exact this), (fun Y hY => by have := prV_tail (HP.out.2 Y hY) (by omega); rw [HD.out.2.2.2] at this; rw [← Nat.sub_sub]; exact this), A ++ [(x, y)], hown6, ?_, H4.out.2.2.1.trans ((vb_drew (((Below.refl _ W4).alloc (Nat.le_refl _) _).mono H4.out.2.2.2.2)).trans hB6)⟩
                  rw [H4.out.2.1, HD.out.1, HD.out.2.1, joinL_same hue, List.append_assoc]
                  try rfl
                clear hown6 hB6 H4 HP HS4 q1 q2 q3 q4 hx5 hx6
                go_wp2
                go_roundw
                case rel => exact ⟨i + 1, j + 1, k + 1, some ⟨b1, o1 + 2, none⟩, some ⟨b2, o2 + 2, none⟩, ad6, cx - 1, cx2 - 1, c6, by omega, by omega, by omega, by rw [Nat.sub_sub], by rw [Nat.sub_sub], rfl, HZ.out⟩
                case measure => simp [sliceLen]; omega
          · have e5 : ((u : Int) == (x : Int)) = false := by simp; omega
            have hxu : x < u := by omega
            by_cases hccx : cx = 1
            · subst hccx
              go_upto_region 8 with fail
              refine wp_region_G (S := SB 2 (fun Y => Y.cell? ⟨wr.heap.size, 0, none⟩ = some (.int .u64 (x : Int)) ∧ Y.cell? ⟨wr.heap.size, 1, none⟩ = some (.int .u64 (y : Int))) (fun _ => True)) hmx ?_
              have hSB : SB 2 (fun Y => Y.cell? ⟨wr.heap.size, 0, none⟩ = some (.int .u64 (x : Int)) ∧ Y.cell? ⟨wr.heap.size, 1, none⟩ = some (.int .u64 (y : Int))) (fun _ => True) (Array.replicate 8 false) W4.drew := SB.on ⟨q1, q2⟩ trivial
              refine wpAnyG_takeP (i := 0) (v := ?_) rfl (by kernel_rfl) (by kernel_rfl) (by kernel_rfl) (fun _ _ _ h => h) rfl (Or.inl ⟨by rfl, ?_⟩) (by assumption) ?_
              rotate_left
              · intro Y _; go_simp; try with_reducible rfl
              intro hSB0
              try simp only [Act.put, List.getElem_toArray, List.getElem_cons_zero, List.setIfInBounds_toArray, List.set_cons_zero, List.set_cons_succ]
              refine wpAnyG_takeB (i := 1) (b := 2) (v := ?_) rfl (by kernel_rfl) (by kernel_rfl) (by kernel_rfl) (fun _ _ _ h => h) rfl (by kernel_rfl) (by rfl) (by kernel_rfl) (Or.inl ⟨by rfl, ?_⟩) (by assumption) ?_
              rotate_left
              · intro Y hY; obtain ⟨⟨y1, y2⟩, _⟩ := hY; go_simp; try with_reducible rfl
              intro hSB1
              try simp only [Act.put, List.getElem_toArray, List.getElem_cons_zero, List.getElem_cons_succ, List.setIfInBounds_toArray, List.set_cons_zero, List.set_cons_succ]
              refine wpAnyG_takeP (i := 4) (v := ?_) rfl (by kernel_rfl) (by kernel_rfl) (by kernel_rfl) (fun _ _ _ h => h) rfl (Or.inl ⟨by rfl, ?_⟩) (by assumption) ?_
              rotate_left
              · intro Y _; go_simp; try with_reducible rfl
              intro hSB4
              try simp only [Act.put, List.getElem_toArray, List.getElem_cons_zero, List.getElem_cons_succ, List.setIfInBounds_toArray, List.set_cons_zero, List.set_cons_succ]
              refine wpAnyG_takeP (i := 5) (v := ?_) rfl (by kernel_rfl) (by kernel_rfl) (by kernel_rfl) (fun _ _ _ h => h) rfl (Or.inl ⟨by rfl, ?_⟩) (by assumption) ?_
              rotate_left
              · intro Y _; go_simp; try with_reducible rfl
              intro hSB5
              try simp only [Act.put, List.getElem_toArray, List.getElem_cons_zero, List.getElem_cons_succ, List.setIfInBounds_toArray, List.set_cons_zero, List.set_cons_succ]
              refine wpAnyG_one (i := 2) (by kernel_rfl) rfl (fun K hK => ?_)
              go_simp
              refine hK.out _ _ (SB.off (by rfl) trivial) (fun hSB2 => ?_)
              clear hK K
              try simp only [Act.put, List.getElem_toArray, List.getElem_cons_zero, List.getElem_cons_succ, List.setIfInBounds_toArray, List.set_cons_zero, List.set_cons_succ]
              refine wpAnyG_one (i := 3) (by kernel_rfl) rfl (fun K hK => ?_)
              refine vstep_appP _ (by rfl) _ _ (by rfl) w.heap.size k (by have := H4.out.2.2.2.2; simp; omega) _ A (by rfl) (row_keptV H4.out.1 (vb_drew ((Below.refl _ W4).alloc (Nat.le_refl _) (.cells #[.int .u64 (x : Int), .int .u64 (y : Int)] 32)))) W4.heap.size (x, y) (by rfl) (prs_one W4 x y) (by omega) ?_
              intro ad6 c6 W6 hown6 hB6
              refine hK.out _ _ (SB.off (by rfl) trivial) (fun hSB3 => ?_)
              clear hK K
              try simp only [Act.put, List.getElem_toArray, List.getElem_cons_zero, List.getElem_cons_succ, List.setIfInBounds_toArray, List.set_cons_zero, List.set_cons_succ]
              refine wpAnyG_takeP (i := 6) (v := ?_) rfl (by kernel_rfl) (by kernel_rfl) (by kernel_rfl) (fun _ _ _ h => h) rfl (Or.inl ⟨by rfl, ?_⟩) (by assumption) ?_
              rotate_left
              · intro Y _; go_simp; try with_reducible rfl
              intro hSB6
              try simp only [Act.put, List.getElem_toArray, List.getElem_cons_zero, List.getElem_cons_succ, List.setIfInBounds_toArray, List.set_cons_zero, List.set_cons_succ]
              refine wpAnyG_takeP (i := 7) (v := ?_) rfl (by kernel_rfl) (by kernel_rfl) (by kernel_rfl) (fun _ _ _ h => h) rfl (Or.inl ⟨by rfl, ?_⟩) (by assumption) ?_
              rotate_left
              · intro Y _; go_simp; try with_reducible rfl
              intro hSB7
              try simp only [Act.put, List.getElem_toArray, List.getElem_cons_zero, List.getElem_cons_succ, List.setIfInBounds_toArray, List.set_cons_zero]
              refine wpAnyG_done (by kernel_rfl) ?_ _
              clear hSB hSB0 hSB1 hSB4 hSB5 hSB2 hSB3 hSB6 hSB7
              have HZ : Hid ((∀ Y, Below w.heap.size w Y → PrV Y (some ⟨b1, o1, none⟩) (n - (i + 1)) (0) (l.drop (i + 1))) ∧ (∀ Y, Below w.heap.size w Y → PrV Y (some ⟨b2, o2, none⟩) (n2 - (j)) (cx2) (m.drop (j))) ∧ ∃ A, W6.ownsRow w.heap.size 32 2 (.slice ad6 (k + 1) c6) (k + 1) (prCells A) ∧ joinL l m = A ++ joinL (l.drop (i + 1)) (m.drop (j)) ∧ Below w.heap.size w W6) := by
                refine ⟨(fun Y hY => by have := prV_last (HP.out.1 Y hY) (by omega) rfl; rw [HD.out.2.2.1] at this; rw [← Nat.sub_sub]; exact this), HP.out.2, A ++ [(x, y)], hown6, ?_, H4.out.2.2.1.trans ((vb_drew (((Below.refl _ W4).alloc (Nat.le_refl _) _).mono H4.out.2.2.2.2)).trans hB6)⟩
                rw [H4.out.2.1, HD.out.1, HD.out.2.1, joinL_more hxu, List.append_assoc]
                try rfl
              clear hown6 hB6 H4 HP HS4 q1 q2 q3 q4 hx5 hx6
              go_wp2
              go_roundw
              case rel => exact ⟨i + 1, j, k + 1, some ⟨b1, o1, none⟩, some ⟨b2, o2, none⟩, ad6, 0, cx2, c6, by omega, by omega, by omega, by rw [show n - (i + 1) = 0 by omega], rfl, rfl, HZ.out⟩
              case measure => simp [sliceLen]; omega
            · skip
              go_upto_region 8 with fail
              refine wp_region_G (S := SB 2 (fun Y => Y.cell? ⟨wr.heap.size, 0, none⟩ = some (.int .u64 (x : Int)) ∧ Y.cell? ⟨wr.heap.size, 1, none⟩ = some (.int .u64 (y : Int))) (fun _ => True)) hmx ?_
              have hSB : SB 2 (fun Y => Y.cell? ⟨wr.heap.size, 0, none⟩ = some (.int .u64 (x : Int)) ∧ Y.cell? ⟨wr.heap.size, 1, none⟩ = some (.int .u64 (y : Int))) (fun _ => True) (Array.replicate 8 false) W4.drew := SB.on ⟨q1, q2⟩ trivial
              refine wpAnyG_takeP (i := 0) (v := ?_) rfl (by kernel_rfl) (by kernel_rfl) (by kernel_rfl) (fun _ _ _ h => h) rfl (Or.inl ⟨by rfl, ?_⟩) (by assumption) ?_
              rotate_left
              · intro Y _; go_simp; try with_reducible rfl
              intro hSB0
              try simp only [Act.put, List.getElem_toArray, List.getElem_cons_zero, List.setIfInBounds_toArray, List.set_cons_zero, List.set_cons_succ]
              refine wpAnyG_takeB (i := 1) (b := 2) (v := ?_) rfl (by kernel_rfl) (by kernel_rfl) (by kernel_rfl) (fun _ _ _ h => h) rfl (by kernel_rfl) (by rfl) (by kernel_rfl) (Or.inl ⟨by rfl, ?_⟩) (by assumption) ?_
              rotate_left
              · intro Y hY; obtain ⟨⟨y1, y2⟩, _⟩ := hY; go_simp; try with_reducible rfl
              intro hSB1
              try simp only [Act.put, List.getElem_toArray, List.getElem_cons_zero, List.getElem_cons_succ, List.setIfInBounds_toArray, List.set_cons_zero, List.set_cons_succ]
              refine wpAnyG_takeP (i := 4) (v := ?_) rfl (by kernel_rfl) (by kernel_rfl) (by kernel_rfl) (fun _ _ _ h => h) rfl (Or.inl ⟨by rfl, ?_⟩) (by assumption) ?_
              rotate_left
              · intro Y _; go_simp; try with_reducible rfl
              intro hSB4
              try simp only [Act.put, List.getElem_toArray, List.getElem_cons_zero, List.getElem_cons_succ, List.setIfInBounds_toArray, List.set_cons_zero, List.set_cons_succ]
              refine wpAnyG_takeP (i := 5) (v := ?_) rfl (by kernel_rfl) (by kernel_rfl) (by kernel_rfl) (fun _ _ _ h => h) rfl (Or.inl ⟨by rfl, ?_⟩) (by assumption) ?_
              rotate_left
              · intro Y _; go_simp; try with_reducible rfl
              intro hSB5
              try simp only [Act.put, List.getElem_toArray, List.getElem_cons_zero, List.getElem_cons_succ, List.setIfInBounds_toArray, List.set_cons_zero, List.set_cons_succ]
              refine wpAnyG_one (i := 2) (by kernel_rfl) rfl (fun K hK => ?_)
              go_simp
              refine hK.out _ _ (SB.off (by rfl) trivial) (fun hSB2 => ?_)
              clear hK K
              try simp only [Act.put, List.getElem_toArray, List.getElem_cons_zero, List.getElem_cons_succ, List.setIfInBounds_toArray, List.set_cons_zero, List.set_cons_succ]
              refine wpAnyG_one (i := 3) (by kernel_rfl) rfl (fun K hK => ?_)
              refine vstep_appP _ (by rfl) _ _ (by rfl) w.heap.size k (by have := H4.out.2.2.2.2; simp; omega) _ A (by rfl) (row_keptV H4.out.1 (vb_drew ((Below.refl _ W4).alloc (Nat.le_refl _) (.cells #[.int .u64 (x : Int), .int .u64 (y : Int)] 32)))) W4.heap.size (x, y) (by rfl) (prs_one W4 x y) (by omega) ?_
              intro ad6 c6 W6 hown6 hB6
              refine hK.out _ _ (SB.off (by rfl) trivial) (fun hSB3 => ?_)
              clear hK K
              try simp only [Act.put, List.getElem_toArray, List.getElem_cons_zero, List.getElem_cons_succ, List.setIfInBounds_toArray, List.set_cons_zero, List.set_cons_succ]
              refine wpAnyG_takeP (i := 6) (v := ?_) rfl (by kernel_rfl) (by kernel_rfl) (by kernel_rfl) (fun _ _ _ h => h) rfl (Or.inl ⟨by rfl, ?_⟩) (by assumption) ?_
              rotate_left
              · intro Y _; go_simp; try with_reducible rfl
              intro hSB6
              try simp only [Act.put, List.getElem_toArray, List.getElem_cons_zero, List.getElem_cons_succ, List.setIfInBounds_toArray, List.set_cons_zero, List.set_cons_succ]
              refine wpAnyG_takeP (i := 7) (v := ?_) rfl (by kernel_rfl) (by kernel_rfl) (by kernel_rfl) (fun _ _ _ h => h) rfl (Or.inl ⟨by rfl, ?_⟩) (by assumption) ?_
              rotate_left
              · intro Y _; go_simp; try with_reducible rfl
              intro hSB7
              try simp only [Act.put, List.getElem_toArray, List.getElem_cons_zero, List.getElem_cons_succ, List.setIfInBounds_toArray, List.set_cons_zero]
              refine wpAnyG_done (by kernel_rfl) ?_ _
              clear hSB hSB0 hSB1 hSB4 hSB5 hSB2 hSB3 hSB6 hSB7
              have HZ : Hid ((∀ Y, Below w.heap.size w Y → PrV Y (some ⟨b1, o1 + 2, none⟩) (n - (i + 1)) (cx - 1) (l.drop (i + 1))) ∧ (∀ Y, Below w.heap.size w Y → PrV Y (some ⟨b2, o2, none⟩) (n2 - (j)) (cx2) (m.drop (j))) ∧ ∃ A, W6.ownsRow w.heap.size 32 2 (.slice ad6 (k + 1) c6) (k + 1) (prCells A) ∧ joinL l m = A ++ joinL (l.drop (i + 1)) (m.drop (j)) ∧ Below w.heap.size w W6) := by
                refine ⟨(fun Y hY => by have := prV_tail (HP.out.1 Y hY) (by omega); rw [HD.out.2.2.1] at this; rw [← Nat.sub_sub]; exact this), HP.out.2, A ++ [(x, y)], hown6, ?_, H4.out.2.2.1.trans ((vb_drew (((Below.refl _ W4).alloc (Nat.le_refl _) _).mono H4.out.2.2.2.2)).trans hB6)⟩
                rw [H4.out.2.1, HD.out.1, HD.out.2.1, joinL_more hxu, List.append_assoc]
                try rfl
              clear hown6 hB6 H4 HP HS4 q1 q2 q3 q4 hx5 hx6
              go_wp2
              go_roundw
              case rel => exact ⟨i + 1, j, k + 1, some ⟨b1, o1 + 2, none⟩, some ⟨b2, o2, none⟩, ad6, cx - 1, cx2, c6, by omega, by omega, by omega, by rw [Nat.sub_sub], rfl, rfl, HZ.out⟩
              case measure => simp [sliceLen]; omega
      · go_simp
        refine hK.out _ _ (SB.on trivial hBa) (fun hSB7 => ?_)
        clear hK K
        try simp only [Act.put, List.getElem_toArray, List.getElem_cons_zero, List.getElem_cons_succ, List.setIfInBounds_toArray, List.set_cons_zero, List.set_cons_succ]
        refine wpAnyG_one (i := 6) (by kernel_rfl) rfl (fun K hK => ?_)
        go_simp
        refine hK.out _ _ (SB.on trivial hBb) (fun hSB6 => ?_)
        clear hK K
        try simp only [Act.put, List.getElem_toArray, List.getElem_cons_zero, List.getElem_cons_succ, List.setIfInBounds_toArray, List.set_cons_zero, List.set_cons_succ]
        have hBc : Below wr.heap.size wr ((wr.alloc zP).alloc (.cells #[.int .u64 (x : Int), .int .u64 (y : Int)] 32)).drew := vb_drew (((Below.refl _ _).alloc (Nat.le_refl _) _).alloc (by simp) _)
        have hBd : Below wr.heap.size wr ((wr.alloc (.cells #[.int .u64 (u : Int), .int .u64 (v : Int)] 32)).alloc (.cells #[.int .u64 (x : Int), .int .u64 (y : Int)] 32)).drew := vb_drew (((Below.refl _ _).alloc (Nat.le_refl _) _).alloc (by simp) _)
        refine wpAnyG_one (i := 8) (by kernel_rfl) rfl (fun K hK => ?_)
        go_simp
        refine hK.out _ _ (SB.on trivial hBc) (fun hSB8 => ?_)
        clear hK K
        try simp only [Act.put, List.getElem_toArray, List.getElem_cons_zero, List.getElem_cons_succ, List.setIfInBounds_toArray, List.set_cons_zero, List.set_cons_succ]
        refine wpAnyG_one (i := 9) (by kernel_rfl) rfl (fun K hK => ?_)
        go_simp
        refine hK.out _ _ (SB.on trivial hBd) (fun hSB9 => ?_)
        clear hK K
        try simp only [Act.put, List.getElem_toArray, List.getElem_cons_zero, List.getElem_cons_succ, List.setIfInBounds_toArray, List.set_cons_zero, List.set_cons_succ]
        refine wpAnyG_done (by kernel_rfl) ?_ _
        clear hSB hSB0 hSB1 hSB2 hSB3 hSB4 hSB5 hSB6 hSB7 hSB8 hSB9
        obtain ⟨W4, hW4, hBd, hx5, hx6, hs4⟩ : ∃ W4, W4 = ((wr.alloc (.cells #[.int .u64 (u : Int), .int .u64 (v : Int)] 32)).alloc (.cells #[.int .u64 (x : Int), .int .u64 (y : Int)] 32)).drew ∧ Below wr.heap.size wr W4 ∧ BoxV W4 (wr.heap.size + 1) (x : Int) (y : Int) ∧ BoxV W4 (wr.heap.size) (u : Int) (v : Int) ∧ W4.heap.size = wr.heap.size + 2 := by
          have q2 := BoxV.new (wr.alloc (.cells #[.int .u64 (u : Int), .int .u64 (v : Int)] 32)) (x : Int) (y : Int)
          rw [World.size_alloc] at q2
          have q1 : BoxV ((wr.alloc (.cells #[.int .u64 (u : Int), .int .u64 (v : Int)] 32)).alloc (.cells #[.int .u64 (x : Int), .int .u64 (y : Int)] 32)).drew wr.heap.size (u : Int) (v : Int) := (Below.heap_alloc _ _ _ (by simp)).trans (BoxV.new wr (u : Int) (v : Int))
          exact ⟨_, rfl, hBd, q2, q1, by simp⟩
        rw [← hW4]
        have HS4 : Hid (W4.heap.size = wr.heap.size + 2) := hs4
        clear hs4
        clear hW4 hza hzb hBb hBc hBa hB0
        obtain ⟨hp1, hp2, A, hrow, hjo, hBw⟩ := H.out
        have H4 : Hid (W4.ownsRow w.heap.size 32 2 (.slice ad k cap) k (prCells A) ∧ joinL l m = A ++ joinL (l.drop i) (m.drop j) ∧ Below w.heap.size w W4 ∧ True ∧ w.heap.size ≤ W4.heap.size) := ⟨row_keptV hrow hBd, hjo, hBw.trans (hBd.mono hBw.size), trivial, Nat.le_trans hBw.size hBd.size⟩
        have HP : Hid ((∀ Y, Below w.heap.size w Y → PrV Y (some ⟨b1, o1, none⟩) (n - i) cx (l.drop i)) ∧ (∀ Y, Below w.heap.size w Y → PrV Y (some ⟨b2, o2, none⟩) (n2 - j) cx2 (m.drop j))) := ⟨hp1, hp2⟩
        have hcp1 := (hp1 wr hBw).cap
        have hcp2 := (hp2 wr hBw).cap
        have j1 : (1 : Int) ≤ ((n - i : Nat) : Int) := by omega
        have j2 : ((n - i : Nat) : Int) ≤ (cx : Int) := by omega
        have j3 : (1 : Int) ≤ ((n2 - j : Nat) : Int) := by omega
        have j4 : ((n2 - j : Nat) : Int) ≤ (cx2 : Int) := by omega
        obtain ⟨q1, q2⟩ := hx5.cell
        obtain ⟨q3, q4⟩ := hx6.cell
        clear hp1 hp2 hrow hjo hBw H hBd HC4
        by_cases hux : u < x
        · have i5 : (u : Int) < (x : Int) := by omega
          by_cases hccx2 : cx2 = 1
          · subst hccx2
            go_upto_region 5 with fail
            refine wp_region_G (S := SB 2 (fun Y => Y.cell? ⟨wr.heap.size, 0, none⟩ = some (.int .u64 (u : Int)) ∧ Y.cell? ⟨wr.heap.size, 1, none⟩ = some (.int .u64 (v : Int))) (fun _ => True)) hmx ?_
            have hSB : SB 2 (fun Y => Y.cell? ⟨wr.heap.size, 0, none⟩ = some (.int .u64 (u : Int)) ∧ Y.cell? ⟨wr.heap.size, 1, none⟩ = some (.int .u64 (v : Int))) (fun _ => True) (Array.replicate 8 false) W4.drew := SB.on ⟨q3, q4⟩ trivial
            refine wpAnyG_takeP (i := 0) (v := ?_) rfl (by kernel_rfl) (by kernel_rfl) (by kernel_rfl) (fun _ _ _ h => h) rfl (Or.inl ⟨by rfl, ?_⟩) (by assumption) ?_
            rotate_left
            · intro Y _; go_simp; try with_reducible rfl
            intro hSB0
            try simp only [Act.put, List.getElem_toArray, List.getElem_cons_zero, List.setIfInBounds_toArray, List.set_cons_zero, List.set_cons_succ]
            refine wpAnyG_takeB (i := 1) (b := 2) (v := ?_) rfl (by kernel_rfl) (by kernel_rfl) (by kernel_rfl) (fun _ _ _ h => h) rfl (by kernel_rfl) (by rfl) (by kernel_rfl) (Or.inl ⟨by rfl, ?_⟩) (by assumption) ?_
            rotate_left
            · intro Y hY; obtain ⟨⟨y1, y2⟩, _⟩ := hY; go_simp; try with_reducible rfl
            intro hSB1
            try simp only [Act.put, List.getElem_toArray, List.getElem_cons_zero, List.getElem_cons_succ, List.setIfInBounds_toArray, List.set_cons_zero, List.set_cons_succ]
            refine wpAnyG_takeP (i := 4) (v := ?_) rfl (by kernel_rfl) (by kernel_rfl) (by kernel_rfl) (fun _ _ _ h => h) rfl (Or.inl ⟨by rfl, ?_⟩) (by assumption) ?_
            rotate_left
            · intro Y _; go_simp; try with_reducible rfl
            intro hSB4
            try simp only [Act.put, List.getElem_toArray, List.getElem_cons_zero, List.getElem_cons_succ, List.setIfInBounds_toArray, List.set_cons_zero, List.set_cons_succ]
            refine wpAnyG_takeP (i := 5) (v := ?_) rfl (by kernel_rfl) (by kernel_rfl) (by kernel_rfl) (fun _ _ _ h => h) rfl (Or.inl ⟨by rfl, ?_⟩) (by assumption) ?_
            rotate_left
            · intro Y _; go_simp; try with_reducible rfl
            intro hSB5
            try simp only [Act.put, List.getElem_toArray, List.getElem_cons_zero, List.getElem_cons_succ, List.setIfInBounds_toArray, List.set_cons_zero, List.set_cons_succ]
            refine wpAnyG_one (i := 2) (by kernel_rfl) rfl (fun K hK => ?_)
            go_simp
            refine hK.out _ _ (SB.off (by rfl) trivial) (fun hSB2 => ?_)
            clear hK K
            try simp only [Act.put, List.getElem_toArray, List.getElem_cons_zero, List.getElem_cons_succ, List.setIfInBounds_toArray, List.set_cons_zero, List.set_cons_succ]
            refine wpAnyG_one (i := 3) (by kernel_rfl) rfl (fun K hK => ?_)
            refine vstep_appP _ (by rfl) _ _ (by rfl) w.heap.size k (by have := H4.out.2.2.2.2; simp; omega) _ A (by rfl) (row_keptV H4.out.1 (vb_drew ((Below.refl _ W4).alloc (Nat.le_refl _) (.cells #[.int .u64 (u : Int), .int .u64 (v : Int)] 32)))) W4.heap.size (u, v) (by rfl) (prs_one W4 u v) (by omega) ?_
            intro ad6 c6 W6 hown6 hB6
            refine hK.out _ _ (SB.off (by rfl) trivial) (fun hSB3 => ?_)
            clear hK K
            try simp only [Act.put, List.getElem_toArray, List.getElem_cons_zero, List.getElem_cons_succ, List.setIfInBounds_toArray, List.set_cons_zero, List.set_cons_succ]
            refine wpAnyG_takeP (i := 6) (v := ?_) rfl (by kernel_rfl) (by kernel_rfl) (by kernel_rfl) (fun _ _ _ h => h) rfl (Or.inl ⟨by rfl, ?_⟩) (by assumption) ?_
            rotate_left
            · intro Y _; go_simp; try with_reducible rfl
            intro hSB6
            try simp only [Act.put, List.getElem_toArray, List.getElem_cons_zero, List.getElem_cons_succ, List.setIfInBounds_toArray, List.set_cons_zero, List.set_cons_succ]
            refine wpAnyG_takeP (i := 7) (v := ?_) rfl (by kernel_rfl) (by kernel_rfl) (by kernel_rfl) (fun _ _ _ h => h) rfl (Or.inl ⟨by rfl, ?_⟩) (by assumption) ?_
            rotate_left
            · intro Y _; go_simp; try with_reducible rfl
            intro hSB7
            try simp only [Act.put, List.getElem_toArray, List.getElem_cons_zero, List.getElem_cons_succ, List.setIfInBounds_toArray, List.set_cons_zero, List.set_cons_succ]
            refine wpAnyG_done (by kernel_rfl) ?_ _
            clear hSB hSB0 hSB1 hSB4 hSB5 hSB2 hSB3 hSB6 hSB7
            have HZ : Hid ((∀ Y, Below w.heap.size w Y → PrV Y (some ⟨b1, o1, none⟩) (n - (i)) (cx) (l.drop (i))) ∧ (∀ Y, Below w.heap.size w Y → PrV Y (some ⟨b2, o2, none⟩) (n2 - (j + 1)) (0) (m.drop (j + 1))) ∧ ∃ A, W6.ownsRow w.heap.size 32 2 (.slice ad6 (k + 1) c6) (k + 1) (prCells A) ∧ joinL l m = A ++ joinL (l.drop (i)) (m.drop (j + 1)) ∧ Below w.heap.size w W6) := by
              refine ⟨HP.out.1, (fun Y hY => by have := prV_last (HP.out.2 Y hY) (by omega) rfl; rw [HD.out.2.2.2] at this; rw [← Nat.sub_sub]; exact this), A ++ [(u, v)], hown6, ?_, H4.out.2.2.1.trans ((vb_drew (((Below.refl _ W4).alloc (Nat.le_refl _) _).mono H4.out.2.2.2.2)).trans hB6)⟩
              rw [H4.out.2.1, HD.out.1, HD.out.2.1, joinL_less hux, List.append_assoc]
              try rfl
            clear hown6 hB6 H4 HP HS4 q1 q2 q3 q4 hx5 hx6
            go_wp2
            go_roundw
            case rel => exact ⟨i, j + 1, k + 1, some ⟨b1, o1, none⟩, some ⟨b2, o2, none⟩, ad6, cx, 0, c6, by omega, by omega, by omega, rfl, by rw [show n2 - (j + 1) = 0 by omega], rfl, HZ.out⟩
            case measure => simp [sliceLen]; omega
          · skip
            go_upto_region 5 with fail
            refine wp_region_G (S := SB 2 (fun Y => Y.cell? ⟨wr.heap.size, 0, none⟩ = some (.int .u64 (u : Int)) ∧ Y.cell? ⟨wr.heap.size, 1, none⟩ = some (.int .u64 (v : Int))) (fun _ => True)) hmx ?_
            have hSB : SB 2 (fun Y => Y.cell? ⟨wr.heap.size, 0, none⟩ = some (.int .u64 (u : Int)) ∧ Y.cell? ⟨wr.heap.size, 1, none⟩ = some (.int .u64 (v : Int))) (fun _ => True) (Array.replicate 8 false) W4.drew := SB.on ⟨q3, q4⟩ trivial
            refine wpAnyG_takeP (i := 0) (v := ?_) rfl (by kernel_rfl) (by kernel_rfl) (by kernel_rfl) (fun _ _ _ h => h) rfl (Or.inl ⟨by rfl, ?_⟩) (by assumption) ?_
            rotate_left
            · intro Y _; go_simp; try with_reducible rfl
            intro hSB0
            try simp only [Act.put, List.getElem_toArray, List.getElem_cons_zero, List.setIfInBounds_toArray, List.set_cons_zero, List.set_cons_succ]
            refine wpAnyG_takeB (i := 1) (b := 2) (v := ?_) rfl (by kernel_rfl) (by kernel_rfl) (by kernel_rfl) (fun _ _ _ h => h) rfl (by kernel_rfl) (by rfl) (by kernel_rfl) (Or.inl ⟨by rfl, ?_⟩) (by assumption) ?_
            rotate_left
            · intro Y hY; obtain ⟨⟨y1, y2⟩, _⟩ := hY; go_simp; try with_reducible rfl
            intro hSB1
            try simp only [Act.put, List.getElem_toArray, List.getElem_cons_zero, List.getElem_cons_succ, List.setIfInBounds_toArray, List.set_cons_zero, List.set_cons_succ]
            refine wpAnyG_takeP (i := 4) (v := ?_) rfl (by kernel_rfl) (by kernel_rfl) (by kernel_rfl) (fun _ _ _ h => h) rfl (Or.inl ⟨by rfl, ?_⟩) (by assumption) ?_
            rotate_left
            · intro Y _; go_simp; try with_reducible rfl
            intro hSB4
            try simp only [Act.put, List.getElem_toArray, List.getElem_cons_zero, List.getElem_cons_succ, List.setIfInBounds_toArray, List.set_cons_zero, List.set_cons_succ]
            refine wpAnyG_takeP (i := 5) (v := ?_) rfl (by kernel_rfl) (by kernel_rfl) (by kernel_rfl) (fun _ _ _ h => h) rfl (Or.inl ⟨by rfl, ?_⟩) (by assumption) ?_
            rotate_left
            · intro Y _; go_simp; try with_reducible rfl
            intro hSB5
            try simp only [Act.put, List.getElem_toArray, List.getElem_cons_zero, List.getElem_cons_succ, List.setIfInBounds_toArray, List.set_cons_zero, List.set_cons_succ]
            refine wpAnyG_one (i := 2) (by kernel_rfl) rfl (fun K hK => ?_)
            go_simp
            refine hK.out _ _ (SB.off (by rfl) trivial) (fun hSB2 => ?_)
            clear hK K
            try simp only [Act.put, List.getElem_toArray, List.getElem_cons_zero, List.getElem_cons_succ, List.setIfInBounds_toArray, List.set_cons_zero, List.set_cons_succ]
            refine wpAnyG_one (i := 3) (by kernel_rfl) rfl (fun K hK => ?_)
            refine vstep_appP _ (by rfl) _ _ (by rfl) w.heap.size k (by have := H4.out.2.2.2.2; simp; omega) _ A (by rfl) (row_keptV H4.out.1 (vb_drew ((Below.refl _ W4).alloc (Nat.le_refl _) (.cells #[.int .u64 (u : Int), .int .u64 (v : Int)] 32)))) W4.heap.size (u, v) (by rfl) (prs_one W4 u v) (by omega) ?_
            intro ad6 c6 W6 hown6 hB6
            refine hK.out _ _ (SB.off (by rfl) trivial) (fun hSB3 => ?_)
            clear hK K
            try simp only [Act.put, List.getElem_toArray, List.getElem_cons_zero, List.getElem_cons_succ, List.setIfInBounds_toArray, List.set_cons_zero, List.set_cons_succ]
            refine wpAnyG_takeP (i := 6) (v := ?_) rfl (by kernel_rfl) (by kernel_rfl) (by kernel_rfl) (fun _ _ _ h => h) rfl (Or.inl ⟨by rfl, ?_⟩) (by assumption) ?_
            rotate_left
            · intro Y _; go_simp; try with_reducible rfl
            intro hSB6
            try simp only [Act.put, List.getElem_toArray, List.getElem_cons_zero, List.getElem_cons_succ, List.setIfInBounds_toArray, List.set_cons_zero, List.set_cons_succ]
            refine wpAnyG_takeP (i := 7) (v := ?_) rfl (by kernel_rfl) (by kernel_rfl) (by kernel_rfl) (fun _ _ _ h => h) rfl (Or.inl ⟨by rfl, ?_⟩) (by assumption) ?_
            rotate_left
            · intro Y _; go_simp; try with_reducible rfl
            intro hSB7
            try simp only [Act.put, List.getElem_toArray, List.getElem_cons_zero, List.getElem_cons_succ, List.setIfInBounds_toArray, List.set_cons_zero, List.set_cons_succ]
            refine wpAnyG_done (by kernel_rfl) ?_ _
            clear hSB hSB0 hSB1 hSB4 hSB5 hSB2 hSB3 hSB6 hSB7
            have HZ : Hid ((∀ Y, Below w.heap.size w Y → PrV Y (some ⟨b1, o1, none⟩) (n - (i)) (cx) (l.drop (i))) ∧ (∀ Y, Below w.heap.size w Y → PrV Y (some ⟨b2, o2 + 2, none⟩) (n2 - (j + 1)) (cx2 - 1) (m.drop (j + 1))) ∧ ∃ A, W6.ownsRow w.heap.size 32 2 (.slice ad6 (k + 1) c6) (k + 1) (prCells A) ∧ joinL l m = A ++ joinL (l.drop (i)) (m.drop (j + 1)) ∧ Below w.heap.size w W6) := by
              refine ⟨HP.out.1, (fun Y hY => by have := prV_tail (HP.out.2 Y hY) (by omega); rw [HD.out.2.2.2] at this; rw [← Nat.sub_sub]; exact this), A ++ [(u, v)], hown6, ?_, H4.out.2.2.1.trans ((vb_drew (((Below.refl _ W4).alloc (Nat.le_refl _) _).mono H4.out.2.2.2.2)).trans hB6)⟩
              rw [H4.out.2.1, HD.out.1, HD.out.2.1, joinL_less hux, List.append_assoc]
              try rfl
            clear hown6 hB6 H4 HP HS4 q1 q2 q3 q4 hx5 hx6
            go_wp2
            go_roundw
            case rel => exact ⟨i, j + 1, k + 1, some ⟨b1, o1, none⟩, some ⟨b2, o2 + 2, none⟩, ad6, cx, cx2 - 1, c6, by omega, by omega, by omega, rfl, by rw [Nat.sub_sub], rfl, HZ.out⟩
            case measure => simp [sliceLen]; omega
        · have i5 : ¬ (u : Int) < (x : Int) := by omega
          by_cases hue : u = x
          · have e5 : ((u : Int) == (x : Int)) = true := by simp [hue]
            by_cases hccx2 : cx2 = 1
            · subst hccx2
              by_cases hccx : cx = 1
              · subst hccx
                go_upto_region 8 with fail
                refine wp_region_G (S := SB 2 (fun Y => Y.cell? ⟨wr.heap.size + 1, 0, none⟩ = some (.int .u64 (x : Int)) ∧ Y.cell? ⟨wr.heap.size + 1, 1, none⟩ = some (.int .u64 (y : Int))) (fun _ => True)) hmx ?_
                have hSB : SB 2 (fun Y => Y.cell? ⟨wr.heap.size + 1, 0, none⟩ = some (.int .u64 (x : Int)) ∧ Y.cell? ⟨wr.heap.size + 1, 1, none⟩ = some (.int .u64 (y : Int))) (fun _ => True) (Array.replicate 8 false) W4.drew := SB.on ⟨q1, q2⟩ trivial
                refine wpAnyG_takeP (i := 0) (v := ?_) rfl (by kernel_rfl) (by kernel_rfl) (by kernel_rfl) (fun _ _ _ h => h) rfl (Or.inl ⟨by rfl, ?_⟩) (by assumption) ?_
                rotate_left
                · intro Y _; go_simp; try with_reducible rfl
                intro hSB0
                try simp only [Act.put, List.getElem_toArray, List.getElem_cons_zero, List.setIfInBounds_toArray, List.set_cons_zero, List.set_cons_succ]
                refine wpAnyG_takeB (i := 1) (b := 2) (v := ?_) rfl (by kernel_rfl) (by kernel_rfl) (by kernel_rfl) (fun _ _ _ h => h) rfl (by kernel_rfl) (by rfl) (by kernel_rfl) (Or.inl ⟨by rfl, ?_⟩) (by assumption) ?_
                rotate_left
                · intro Y hY; obtain ⟨⟨y1, y2⟩, _⟩ := hY; go_simp; try with_reducible rfl
                intro hSB1
                try simp only [Act.put, List.getElem_toArray, List.getElem_cons_zero, List.getElem_cons_succ, List.setIfInBounds_toArray, List.set_cons_zero, List.set_cons_succ]
                refine wpAnyG_takeP (i := 4) (v := ?_) rfl (by kernel_rfl) (by kernel_rfl) (by kernel_rfl) (fun _ _ _ h => h) rfl (Or.inl ⟨by rfl, ?_⟩) (by assumption) ?_
                rotate_left
                · intro Y _; go_simp; try with_reducible rfl
                intro hSB4
                try simp only [Act.put, List.getElem_toArray, List.getElem_cons_zero, List.getElem_cons_succ, List.setIfInBounds_toArray, List.set_cons_zero, List.set_cons_succ]
                refine wpAnyG_takeP (i := 5) (v := ?_) rfl (by kernel_rfl) (by kernel_rfl) (by kernel_rfl) (fun _ _ _ h => h) rfl (Or.inl ⟨by rfl, ?_⟩) (by assumption) ?_
                rotate_left
                · intro Y _; go_simp; try with_reducible rfl
                intro hSB5
                try simp only [Act.put, List.getElem_toArray, List.getElem_cons_zero, List.getElem_cons_succ, List.setIfInBounds_toArray, List.set_cons_zero, List.set_cons_succ]
                refine wpAnyG_one (i := 2) (by kernel_rfl) rfl (fun K hK => ?_)
                go_simp
                refine hK.out _ _ (SB.off (by rfl) trivial) (fun hSB2 => ?_)
                clear hK K
                try simp only [Act.put, List.getElem_toArray, List.getElem_cons_zero, List.getElem_cons_succ, List.setIfInBounds_toArray, List.set_cons_zero, List.set_cons_succ]
                refine wpAnyG_one (i := 3) (by kernel_rfl) rfl (fun K hK => ?_)
                refine vstep_appP _ (by rfl) _ _ (by rfl) w.heap.size k (by have := H4.out.2.2.2.2; simp; omega) _ A (by rfl) (row_keptV H4.out.1 (vb_drew ((Below.refl _ W4).alloc (Nat.le_refl _) (.cells #[.int .u64 (x : Int), .int .u64 (y : Int)] 32)))) W4.heap.size (x, y) (by rfl) (prs_one W4 x y) (by omega) ?_
                intro ad6 c6 W6 hown6 hB6
                refine hK.out _ _ (SB.off (by rfl) trivial) (fun hSB3 => ?_)
                clear hK K
                try simp only [Act.put, List.getElem_toArray, List.getElem_cons_zero, List.getElem_cons_succ, List.setIfInBounds_toArray, List.set_cons_zero, List.set_cons_succ]
                refine wpAnyG_takeP (i := 6) (v := ?_) rfl (by kernel_rfl) (by kernel_rfl) (by kernel_rfl) (fun _ _ _ h => h) rfl (Or.inl ⟨by rfl, ?_⟩) (by assumption) ?_
                rotate_left
                · intro Y _; go_simp; try with_reducible rfl
                intro hSB6
                try simp only [Act.put, List.getElem_toArray, List.getElem_cons_zero, List.getElem_cons_succ, List.setIfInBounds_toArray, List.set_cons_zero, List.set_cons_succ]
                refine wpAnyG_takeP (i := 7) (v := ?_) rfl (by kernel_rfl) (by kernel_rfl) (by kernel_rfl) (fun _ _ _ h => h) rfl (Or.inl ⟨by rfl, ?_⟩) (by assumption) ?_
                rotate_left
                · intro Y _; go_simp; try with_reducible rfl
                intro hSB7
                try simp only [Act.put, List.getElem_toArray, List.getElem_cons_zero, List.getElem_cons_succ, List.setIfInBounds_toArray, List.set_cons_zero]
                refine wpAnyG_done (by kernel_rfl) ?_ _
                clear hSB hSB0 hSB1 hSB4 hSB5 hSB2 hSB3 hSB6 hSB7
                have HZ : Hid ((∀ Y, Below w.heap.size w Y → PrV Y (some ⟨b1, o1, none⟩) (n - (i + 1)) (0) (l.drop (i + 1))) ∧ (∀ Y, Below w.heap.size w Y → PrV Y (some ⟨b2, o2, none⟩) (n2 - (j + 1)) (0) (m.drop (j + 1))) ∧ ∃ A, W6.ownsRow w.heap.size 32 2 (.slice ad6 (k + 1) c6) (k + 1) (prCells A) ∧ joinL l m = A ++ joinL (l.drop (i + 1)) (m.drop (j + 1)) ∧ Below w.heap.size w W6) := by
                  refine ⟨(fun Y hY => by have := prV_last (HP.out.1 Y hY) (by omega) rfl; rw [HD.out.2.2.1] at this; rw [← Nat.sub_sub]; exact this), (fun Y hY => by have := prV_last (HP.out.2 Y hY) (by omega) rfl; rw [HD.out.2.2.2] at this; rw [← Nat.sub_sub]; exact this), A ++ [(x, y)], hown6, ?_, H4.out.2.2.1.trans ((vb_drew (((Below.refl _ W4).alloc (Nat.le_refl _) _).mono H4.out.2.2.2.2)).trans hB6)⟩
                  rw [H4.out.2.1, HD.out.1, HD.out.2.1, joinL_same hue, List.append_assoc]
                  try rfl
                clear hown6 hB6 H4 HP HS4 q1 q2 q3 q4 hx5 hx6
                go_wp2
                go_roundw
                case rel => exact ⟨i + 1, j + 1, k + 1, some ⟨b1, o1, none⟩, some ⟨b2, o2, none⟩, ad6, 0, 0, c6, by omega, by omega, by omega, by rw [show n - (i + 1) = 0 by omega], by rw [show n2 - (j + 1) = 0 by omega], rfl, HZ.out⟩
                case measure => simp [sliceLen]; omega
              · skip
                go_upto_region 8 with fail
                refine wp_region_G (S := SB 2 (fun Y => Y.cell? ⟨wr.heap.size + 1, 0, none⟩ = some (.int .u64 (x : Int)) ∧ Y.cell? ⟨wr.heap.size + 1, 1, none⟩ = some (.int .u64 (y : Int))) (fun _ => True)) hmx ?_
                have hSB : SB 2 (fun Y => Y.cell? ⟨wr.heap.size + 1, 0, none⟩ = some (.int .u64 (x : Int)) ∧ Y.cell? ⟨wr.heap.size + 1, 1, none⟩ = some (.int .u64 (y : Int))) (fun _ => True) (Array.replicate 8 false) W4.drew := SB.on ⟨q1, q2⟩ trivial
                refine wpAnyG_takeP (i := 0) (v := ?_) rfl (by kernel_rfl) (by kernel_rfl) (by kernel_rfl) (fun _ _ _ h => h) rfl (Or.inl ⟨by rfl, ?_⟩) (by assumption) ?_
                rotate_left
                · intro Y _; go_simp; try with_reducible rfl
                intro hSB0
                try simp only [Act.put, List.getElem_toArray, List.getElem_cons_zero, List.setIfInBounds_toArray, List.set_cons_zero, List.set_cons_succ]
                refine wpAnyG_takeB (i := 1) (b := 2) (v := ?_) rfl (by kernel_rfl) (by kernel_rfl) (by kernel_rfl) (fun _ _ _ h => h) rfl (by kernel_rfl) (by rfl) (by kernel_rfl) (Or.inl ⟨by rfl, ?_⟩) (by assumption) ?_
                rotate_left
                · intro Y hY; obtain ⟨⟨y1, y2⟩, _⟩ := hY; go_simp; try with_reducible rfl
                intro hSB1
                try simp only [Act.put, List.getElem_toArray, List.getElem_cons_zero, List.getElem_cons_succ, List.setIfInBounds_toArray, List.set_cons_zero, List.set_cons_succ]
                refine wpAnyG_takeP (i := 4) (v := ?_) rfl (by kernel_rfl) (by kernel_rfl) (by kernel_rfl) (fun _ _ _ h => h) rfl (Or.inl ⟨by rfl, ?_⟩) (by assumption) ?_
                rotate_left
                · intro Y _; go_simp; try with_reducible rfl
                intro hSB4
                try simp only [Act.put, List.getElem_toArray, List.getElem_cons_zero, List.getElem_cons_succ, List.setIfInBounds_toArray, List.set_cons_zero, List.set_cons_succ]
                refine wpAnyG_takeP (i := 5) (v := ?_) rfl (by kernel_rfl) (by kernel_rfl) (by kernel_rfl) (fun _ _ _ h => h) rfl (Or.inl ⟨by rfl, ?_⟩) (by assumption) ?_
                rotate_left
                · intro Y _; go_simp; try with_reducible rfl
                intro hSB5
                try simp only [Act.put, List.getElem_toArray, List.getElem_cons_zero, List.getElem_cons_succ, List.setIfInBounds_toArray, List.set_cons_zero, List.set_cons_succ]
                refine wpAnyG_one (i := 2) (by kernel_rfl) rfl (fun K hK => ?_)
                go_simp
                refine hK.out _ _ (SB.off (by rfl) trivial) (fun hSB2 => ?_)
                clear hK K
                try simp only [Act.put, List.getElem_toArray, List.getElem_cons_zero, List.getElem_cons_succ, List.setIfInBounds_toArray, List.set_cons_zero, List.set_cons_succ]
                refine wpAnyG_one (i := 3) (by kernel_rfl) rfl (fun K hK => ?_)
                refine vstep_appP _ (by rfl) _ _ (by rfl) w.heap.size k (by have := H4.out.2.2.2.2; simp; omega) _ A (by rfl) (row_keptV H4.out.1 (vb_drew ((Below.refl _ W4).alloc (Nat.le_refl _) (.cells #[.int .u64 (x : Int), .int .u64 (y : Int)] 32)))) W4.heap.size (x, y) (by rfl) (prs_one W4 x y) (by omega) ?_
                intro ad6 c6 W6 hown6 hB6
                refine hK.out _ _ (SB.off (by rfl) trivial) (fun hSB3 => ?_)
                clear hK K
                try simp only [Act.put, List.getElem_toArray, List.getElem_cons_zero, List.getElem_cons_succ, List.setIfInBounds_toArray, List.set_cons_zero, List.set_cons_succ]
                refine wpAnyG_takeP (i := 6) (v := ?_) rfl (by kernel_rfl) (by kernel_rfl) (by kernel_rfl) (fun _ _ _ h => h) rfl (Or.inl ⟨by rfl, ?_⟩) (by assumption) ?_
                rotate_left
                · intro Y _; go_simp; try with_reducible rfl
                intro hSB6
                try simp only [Act.put, List.getElem_toArray, List.getElem_cons_zero, List.getElem_cons_succ, List.setIfInBounds_toArray, List.set_cons_zero, List.set_cons_succ]
                refine wpAnyG_takeP (i := 7) (v := ?_) rfl (by kernel_rfl) (by kernel_rfl) (by kernel_rfl) (fun _ _ _ h => h) rfl (Or.inl ⟨by rfl, ?_⟩) (by assumption) ?_
                rotate_left
                · intro Y _; go_simp; try with_reducible rfl
                intro hSB7
                try simp only [Act.put, List.getElem_toArray, List.getElem_cons_zero, List.getElem_cons_succ, List.setIfInBounds_toArray, List.set_cons_zero]
                refine wpAnyG_done (by kernel_rfl) ?_ _
                clear hSB hSB0 hSB1 hSB4 hSB5 hSB2 hSB3 hSB6 hSB7
                have HZ : Hid ((∀ Y, Below w.heap.size w Y → PrV Y (some ⟨b1, o1 + 2, none⟩) (n - (i + 1)) (cx - 1) (l.drop (i + 1))) ∧ (∀ Y, Below w.heap.size w Y → PrV Y (some ⟨b2, o2, none⟩) (n2 - (j + 1)) (0) (m.drop (j + 1))) ∧ ∃ A, W6.ownsRow w.heap.size 32 2 (.slice ad6 (k + 1) c6) (k + 1) (prCells A) ∧ joinL l m = A ++ joinL (l.drop (i + 1)) (m.drop (j + 1)) ∧ Below w.heap.size w W6) := by
                  refine ⟨(fun Y hY => by have := prV_tail (HP.out.1 Y hY) (by omega); rw [HD.out.2.2.1] at this; rw [← Nat.sub_sub]; exact this), (fun Y hY => by have := prV_last (HP.out.2 Y hY) (by omega) rfl; rw [HD.out.2.2.2] at this; rw [← Nat.sub_sub]; exact this), A ++ [(x, y)], hown6, ?_, H4.out.2.2.1.trans ((vb_drew (((Below.refl _ W4).alloc (Nat.le_refl _) _).mono H4.out.2.2.2.2)).trans hB6)⟩
                  rw [H4.out.2.1, HD.out.1, HD.out.2.1, joinL_same hue, List.append_assoc]
                  try rfl
                clear hown6 hB6 H4 HP HS4 q1 q2 q3 q4 hx5 hx6
                go_wp2
                go_roundw
                case rel => exact ⟨i + 1, j + 1, k + 1, some ⟨b1, o1 + 2, none⟩, some ⟨b2, o2, none⟩, ad6, cx - 1, 0, c6, by omega, by omega, by omega, by rw [Nat.sub_sub], by rw [show n2 - (j + 1) = 0 by omega], rfl, HZ.out⟩
                case measure => simp [sliceLen]; omega
            · skip
              by_cases hccx : cx = 1
              · subst hccx
                go_upto_region 8 with fail
                refine wp_region_G (S := SB 2 (fun Y => Y.cell? ⟨wr.heap.size + 1, 0, none⟩ = some (.int .u64 (x : Int)) ∧ Y.cell? ⟨wr.heap.size + 1, 1, none⟩ = some (.int .u64 (y : Int))) (fun _ => True)) hmx ?_
                have hSB : SB 2 (fun Y => Y.cell? ⟨wr.heap.size + 1, 0, none⟩ = some (.int .u64 (x : Int)) ∧ Y.cell? ⟨wr.heap.size + 1, 1, none⟩ = some (.int .u64 (y : Int))) (fun _ => True) (Array.replicate 8 false) W4.drew := SB.on ⟨q1, q2⟩ trivial
                refine wpAnyG_takeP (i := 0) (v := ?_) rfl (by kernel_rfl) (by kernel_rfl) (by kernel_rfl) (fun _ _ _ h => h) rfl (Or.inl ⟨by rfl, ?_⟩) (by assumption) ?_
                rotate_left
                · intro Y _; go_simp; try with_reducible rfl
                intro hSB0
                try simp only [Act.put, List.getElem_toArray, List.getElem_cons_zero, List.setIfInBounds_toArray, List.set_cons_zero, List.set_cons_succ]
                refine wpAnyG_takeB (i := 1) (b := 2) (v := ?_) rfl (by kernel_rfl) (by kernel_rfl) (by kernel_rfl) (fun _ _ _ h => h) rfl (by kernel_rfl) (by rfl) (by kernel_rfl) (Or.inl ⟨by rfl, ?_⟩) (by assumption) ?_
                rotate_left
                · intro Y hY; obtain ⟨⟨y1, y2⟩, _⟩ := hY; go_simp; try with_reducible rfl
                intro hSB1
                try simp only [Act.put, List.getElem_toArray, List.getElem_cons_zero, List.getElem_cons_succ, List.setIfInBounds_toArray, List.set_cons_zero, List.set_cons_succ]
                refine wpAnyG_takeP (i := 4) (v := ?_) rfl (by kernel_rfl) (by kernel_rfl) (by kernel_rfl) (fun _ _ _ h => h) rfl (Or.inl ⟨by rfl, ?_⟩) (by assumption) ?_
                rotate_left
                · intro Y _; go_simp; try with_reducible rfl
                intro hSB4
                try simp only [Act.put, List.getElem_toArray, List.getElem_cons_zero, List.getElem_cons_succ, List.setIfInBounds_toArray, List.set_cons_zero, List.set_cons_succ]
                refine wpAnyG_takeP (i := 5) (v := ?_) rfl (by kernel_rfl) (by kernel_rfl) (by kernel_rfl) (fun _ _ _ h => h) rfl (Or.inl ⟨by rfl, ?_⟩) (by assumption) ?_
                rotate_left
                · intro Y _; go_simp; try with_reducible rfl
                intro hSB5
                try simp only [Act.put, List.getElem_toArray, List.getElem_cons_zero, List.getElem_cons_succ, List.setIfInBounds_toArray, List.set_cons_zero, List.set_cons_succ]
                refine wpAnyG_one (i := 2) (by kernel_rfl) rfl (fun K hK => ?_)
                go_simp
                refine hK.out _ _ (SB.off (by rfl) trivial) (fun hSB2 => ?_)
                clear hK K
                try simp only [Act.put, List.getElem_toArray, List.getElem_cons_zero, List.getElem_cons_succ, List.setIfInBounds_toArray, List.set_cons_zero, List.set_cons_succ]
                refine wpAnyG_one (i := 3) (by kernel_rfl) rfl (fun K hK => ?_)
                refine vstep_appP _ (by rfl) _ _ (by rfl) w.heap.size k (by have := H4.out.2.2.2.2; simp; omega) _ A (by rfl) (row_keptV H4.out.1 (vb_drew ((Below.refl _ W4).alloc (Nat.le_refl _) (.cells #[.int .u64 (x : Int), .int .u64 (y : Int)] 32)))) W4.heap.size (x, y) (by rfl) (prs_one W4 x y) (by omega) ?_
                intro ad6 c6 W6 hown6 hB6
                refine hK.out _ _ (SB.off (by rfl) trivial) (fun hSB3 => ?_)
                clear hK K
                try simp only [Act.put, List.getElem_toArray, List.getElem_cons_zero, List.getElem_cons_succ, List.setIfInBounds_toArray, List.set_cons_zero, List.set_cons_succ]
                refine wpAnyG_takeP (i := 6) (v := ?_) rfl (by kernel_rfl) (by kernel_rfl) (by kernel_rfl) (fun _ _ _ h => h) rfl (Or.inl ⟨by rfl, ?_⟩) (by assumption) ?_
                rotate_left
                · intro Y _; go_simp; try with_reducible rfl
                intro hSB6
                try simp only [Act.put, List.getElem_toArray, List.getElem_cons_zero, List.getElem_cons_succ, List.setIfInBounds_toArray, List.set_cons_zero, List.set_cons_succ]
                refine wpAnyG_takeP (i := 7) (v := ?_) rfl (by kernel_rfl) (by kernel_rfl) (by kernel_rfl) (fun _ _ _ h => h) rfl (Or.inl ⟨by rfl, ?_⟩) (by assumption) ?_
                rotate_left
                · intro Y _; go_simp; try with_reducible rfl
                intro hSB7
                try simp only [Act.put, List.getElem_toArray, List.getElem_cons_zero, List.getElem_cons_succ, List.setIfInBounds_toArray, List.set_cons_zero]
                refine wpAnyG_done (by kernel_rfl) ?_ _
                clear hSB hSB0 hSB1 hSB4 hSB5 hSB2 hSB3 hSB6 hSB7
                have HZ : Hid ((∀ Y, Below w.heap.size w Y → PrV Y (some ⟨b1, o1, none⟩) (n - (i + 1)) (0) (l.drop (i + 1))) ∧ (∀ Y, Below w.heap.size w Y → PrV Y (some ⟨b2, o2 + 2, none⟩) (n2 - (j + 1)) (cx2 - 1) (m.drop (j + 1))) ∧ ∃ A, W6.ownsRow w.heap.size 32 2 (.slice ad6 (k + 1) c6) (k + 1) (prCells A) ∧ joinL l m = A ++ joinL (l.drop (i + 1)) (m.drop (j + 1)) ∧ Below w.heap.size w W6) := by
                  refine ⟨(fun Y hY => by have := prV_last (HP.out.1 Y hY) (by omega) rfl; rw [HD.out.2.2.1] at this; rw [← Nat.sub_sub]; exact this), (fun Y hY => by have := prV_tail (HP.out.2 Y hY) (by omega); rw [HD.out.2.2.2] at this; rw [← Nat.sub_sub]; exact this), A ++ [(x, y)], hown6, ?_, H4.out.2.2.1.trans ((vb_drew (((Below.refl _ W4).alloc (Nat.le_refl _) _).mono H4.out.2.2.2.2)).trans hB6)⟩
                  rw [H4.out.2.1, HD.out.1, HD.out.2.1, joinL_same hue, List.append_assoc]
                  try rfl
                clear hown6 hB6 H4 HP HS4 q1 q2 q3 q4 hx5 hx6
                go_wp2
                go_roundw
                case rel => exact ⟨i + 1, j + 1, k + 1, some ⟨b1, o1, none⟩, some ⟨b2, o2 + 2, none⟩, ad6, 0, cx2 - 1, c6, by omega, by omega, by omega, by rw [show n - (i + 1) = 0 by omega], by rw [Nat.sub_sub], rfl, HZ.out⟩
                case measure => simp [sliceLen]; omega
              · skip
                go_upto_region 8 with fail
                refine wp_region_G (S := SB 2 (fun Y => Y.cell? ⟨wr.heap.size + 1, 0, none⟩ = some (.int .u64 (x : Int)) ∧ Y.cell? ⟨wr.heap.size + 1, 1, none⟩ = some (.int .u64 (y : Int))) (fun _ => True)) hmx ?_
                have hSB : SB 2 (fun Y => Y.cell? ⟨wr.heap.size + 1, 0, none⟩ = some (.int .u64 (x : Int)) ∧ Y.cell? ⟨wr.heap.size + 1, 1, none⟩ = some (.int .u64 (y : Int))) (fun _ => True) (Array.replicate 8 false) W4.drew := SB.on ⟨q1, q2⟩ trivial
                refine wpAnyG_takeP (i := 0) (v := ?_) rfl (by kernel_rfl) (by kernel_rfl) (by kernel_rfl) (fun _ _ _ h => h) rfl (Or.inl ⟨by rfl, ?_⟩) (by assumption) ?_
                rotate_left
                · intro Y _; go_simp; try with_reducible rfl
                intro hSB0
                try simp only [Act.put, List.getElem_toArray, List.getElem_cons_zero, List.setIfInBounds_toArray, List.set_cons_zero, List.set_cons_succ]
                refine wpAnyG_takeB (i := 1) (b := 2) (v := ?_) rfl (by kernel_rfl) (by kernel_rfl) (by kernel_rfl) (fun _ _ _ h => h) rfl (by kernel_rfl) (by rfl) (by kernel_rfl) (Or.inl ⟨by rfl, ?_⟩) (by assumption) ?_
                rotate_left
                · intro Y hY; obtain ⟨⟨y1, y2⟩, _⟩ := hY; go_simp; try with_reducible rfl
                intro hSB1
                try simp only [Act.put, List.getElem_toArray, List.getElem_cons_zero, List.getElem_cons_succ, List.setIfInBounds_toArray, List.set_cons_zero, List.set_cons_succ]
                refine wpAnyG_takeP (i := 4) (v := ?_) rfl (by kernel_rfl) (by kernel_rfl) (by kernel_rfl) (fun _ _ _ h => h) rfl (Or.inl ⟨by rfl, ?_⟩) (by assumption) ?_
                rotate_left
                · intro Y _; go_simp; try with_reducible rfl
                intro hSB4
                try simp only [Act.put, List.getElem_toArray, List.getElem_cons_zero, List.getElem_cons_succ, List.setIfInBounds_toArray, List.set_cons_zero, List.set_cons_succ]
                refine wpAnyG_takeP (i := 5) (v := ?_) rfl (by kernel_rfl) (by kernel_rfl) (by kernel_rfl) (fun _ _ _ h => h) rfl (Or.inl ⟨by rfl, ?_⟩) (by assumption) ?_
                rotate_left
                · intro Y _; go_simp; try with_reducible rfl
                intro hSB5
                try simp only [Act.put, List.getElem_toArray, List.getElem_cons_zero, List.getElem_cons_succ, List.setIfInBounds_toArray, List.set_cons_zero, List.set_cons_succ]
                refine wpAnyG_one (i := 2) (by kernel_rfl) rfl (fun K hK => ?_)
                go_simp
                refine hK.out _ _ (SB.off (by rfl) trivial) (fun hSB2 => ?_)
                clear hK K
                try simp only [Act.put, List.getElem_toArray, List.getElem_cons_zero, List.getElem_cons_succ, List.setIfInBounds_toArray, List.set_cons_zero, List.set_cons_succ]
                refine wpAnyG_one (i := 3) (by kernel_rfl) rfl (fun K hK => ?_)
                refine vstep_appP _ (by rfl) _ _ (by rfl) w.heap.size k (by have := H4.out.2.2.2.2; simp; omega) _ A (by rfl) (row_keptV H4.out.1 (vb_drew ((Below.refl _ W4).alloc (Nat.le_refl _) (.cells #[.int .u64 (x : Int), .int .u64 (y : Int)] 32)))) W4.heap.size (x, y) (by rfl) (prs_one W4 x y) (by omega) ?_
                intro ad6 c6 W6 hown6 hB6
                refine hK.out _ _ (SB.off (by rfl) trivial) (fun hSB3 => ?_)
                clear hK K
                try simp only [Act.put, List.getElem_toArray, List.getElem_cons_zero, List.getElem_cons_succ, List.setIfInBounds_toArray, List.set_cons_zero, List.set_cons_succ]
                refine wpAnyG_takeP (i := 6) (v := ?_) rfl (by kernel_rfl) (by kernel_rfl) (by kernel_rfl) (fun _ _ _ h => h) rfl (Or.inl ⟨by rfl, ?_⟩) (by assumption) ?_
                rotate_left
                · intro Y _; go_simp; try with_reducible rfl
                intro hSB6
                try simp only [Act.put, List.getElem_toArray, List.getElem_cons_zero, List.getElem_cons_succ, List.setIfInBounds_toArray, List.set_cons_zero, List.set_cons_succ]
                refine wpAnyG_takeP (i := 7) (v := ?_) rfl (by kernel_rfl) (by kernel_rfl) (by kernel_rfl) (fun _ _ _ h => h) rfl (Or.inl ⟨by rfl, ?_⟩) (by assumption) ?_
                rotate_left
                · intro Y _; go_simp; try with_reducible rfl
                intro hSB7
                try simp only [Act.put, List.getElem_toArray, List.getElem_cons_zero, List.getElem_cons_succ, List.setIfInBounds_toArray, List.set_cons_zero]
                refine wpAnyG_done (by kernel_rfl) ?_ _
                clear hSB hSB0 hSB1 hSB4 hSB5 hSB2 hSB3 hSB6 hSB7
                have HZ : Hid ((∀ Y, Below w.heap.size w Y → PrV Y (some ⟨b1, o1 + 2, none⟩) (n - (i + 1)) (cx - 1) (l.drop (i + 1))) ∧ (∀ Y, Below w.heap.size w Y → PrV Y (some ⟨b2, o2 + 2, none⟩) (n2 - (j + 1)) (cx2 - 1) (m.drop (j + 1))) ∧ ∃ A, W6.ownsRow w.heap.size 32 2 (.slice ad6 (k + 1) c6) (k + 1) (prCells A) ∧ joinL l m = A ++ joinL (l.drop (i + 1)) (m.drop (j + 1)) ∧ Below w.heap.size w W6) := by
                  refine ⟨(fun Y hY => by have := prV_tail (HP.out.1 Y hY) (by omega); rw [HD.out.2.2.1] at this; rw [← Nat.sub_sub]; exact this), (fun Y hY => by have := prV_tail (HP.out.2 Y hY) (by omega); rw [HD.out.2.2.2] at this; rw [← Nat.sub_sub]; exact this), A ++ [(x, y)], hown6, ?_, H4.out.2.2.1.trans ((vb_drew (((Below.refl _ W4).alloc (Nat.le_refl _) _).mono H4.out.2.2.2.2)).trans hB6)⟩
                  rw [H4.out.2.1, HD.out.1, HD.out.2.1, joinL_same hue, List.append_assoc]
                  try rfl
                clear hown6 hB6 H4 HP HS4 q1 q2 q3 q4 hx5 hx6
                go_wp2
                go_roundw
                case rel => exact ⟨i + 1, j + 1, k + 1, some ⟨b1, o1 + 2, none⟩, some ⟨b2, o2 + 2, none⟩, ad6, cx - 1, cx2 - 1, c6, by omega, by omega, by omega, by rw [Nat.sub_sub], by rw [Nat.sub_sub], rfl, HZ.out⟩
                case measure => simp [sliceLen]; omega
          · have e5 : ((u : Int) == (x : Int)) = false := by simp; omega
            have hxu : x < u := by omega
            by_cases hccx : cx = 1
            · subst hccx
              go_upto_region 8 with fail
              refine wp_region_G (S := SB 2 (fun Y => Y.cell? ⟨wr.heap.size + 1, 0, none⟩ = some (.int .u64 (x : Int)) ∧ Y.cell? ⟨wr.heap.size + 1, 1, none⟩ = some (.int .u64 (y : Int))) (fun _ => True)) hmx ?_
              have hSB : SB 2 (fun Y => Y.cell? ⟨wr.heap.size + 1, 0, none⟩ = some (.int .u64 (x : Int)) ∧ Y.cell? ⟨wr.heap.size + 1, 1, none⟩ = some (.int .u64 (y : Int))) (fun _ => True) (Array.replicate 8 false) W4.drew := SB.on ⟨q1, q2⟩ trivial
              refine wpAnyG_takeP (i := 0) (v := ?_) rfl (by kernel_rfl) (by kernel_rfl) (by kernel_rfl) (fun _ _ _ h => h) rfl (Or.inl ⟨by rfl, ?_⟩) (by assumption) ?_
              rotate_left
              · intro Y _; go_simp; try with_reducible rfl
              intro hSB0
              try simp only [Act.put, List.getElem_toArray, List.getElem_cons_zero, List.setIfInBounds_toArray, List.set_cons_zero, List.set_cons_succ]
              refine wpAnyG_takeB (i := 1) (b := 2) (v := ?_) rfl (by kernel_rfl) (by kernel_rfl) (by kernel_rfl) (fun _ _ _ h => h) rfl (by kernel_rfl) (by rfl) (by kernel_rfl) (Or.inl ⟨by rfl, ?_⟩) (by assumption) ?_
              rotate_left
              · intro Y hY; obtain ⟨⟨y1, y2⟩, _⟩ := hY; go_simp; try with_reducible rfl
              intro hSB1
              try simp only [Act.put, List.getElem_toArray, List.getElem_cons_zero, List.getElem_cons_succ, List.setIfInBounds_toArray, List.set_cons_zero, List.set_cons_succ]
              refine wpAnyG_takeP (i := 4) (v := ?_) rfl (by kernel_rfl) (by kernel_rfl) (by kernel_rfl) (fun _ _ _ h => h) rfl (Or.inl ⟨by rfl, ?_⟩) (by assumption) ?_
              rotate_left
              · intro Y _; go_simp; try with_reducible rfl
              intro hSB4
              try simp only [Act.put, List.getElem_toArray, List.getElem_cons_zero, List.getElem_cons_succ, List.setIfInBounds_toArray, List.set_cons_zero, List.set_cons_succ]
              refine wpAnyG_takeP (i := 5) (v := ?_) rfl (by kernel_rfl) (by kernel_rfl) (by kernel_rfl) (fun _ _ _ h => h) rfl (Or.inl ⟨by rfl, ?_⟩) (by assumption) ?_
              rotate_left
              · intro Y _; go_simp; try with_reducible rfl
              intro hSB5
              try simp only [Act.put, List.getElem_toArray, List.getElem_cons_zero, List.getElem_cons_succ, List.setIfInBounds_toArray, List.set_cons_zero, List.set_cons_succ]
              refine wpAnyG_one (i := 2) (by kernel_rfl) rfl (fun K hK => ?_)
              go_simp
              refine hK.out _ _ (SB.off (by rfl) trivial) (fun hSB2 => ?_)
              clear hK K
              try simp only [Act.put, List.getElem_toArray, List.getElem_cons_zero, List.getElem_cons_succ, List.setIfInBounds_toArray, List.set_cons_zero, List.set_cons_succ]
              refine wpAnyG_one (i := 3) (by kernel_rfl) rfl (fun K hK => ?_)
              refine vstep_appP _ (by rfl) _ _ (by rfl) w.heap.size k (by have := H4.out.2.2.2.2; simp; omega) _ A (by rfl) (row_keptV H4.out.1 (vb_drew ((Below.refl _ W4).alloc (Nat.le_refl _) (.cells #[.int .u64 (x : Int), .int .u64 (y : Int)] 32)))) W4.heap.size (x, y) (by rfl) (prs_one W4 x y) (by omega) ?_
              intro ad6 c6 W6 hown6 hB6
              refine hK.out _ _ (SB.off (by rfl) trivial) (fun hSB3 => ?_)
              clear hK K
              try simp only [Act.put, List.getElem_toArray, List.getElem_cons_zero, List.getElem_cons_succ, List.setIfInBounds_toArray, List.set_cons_zero, List.set_cons_succ]
              refine wpAnyG_takeP (i := 6) (v := ?_) rfl (by kernel_rfl) (by kernel_rfl) (by kernel_rfl) (fun _ _ _ h => h) rfl (Or.inl ⟨by rfl, ?_⟩) (by assumption) ?_
              rotate_left
              · intro Y _; go_simp; try with_reducible rfl
              intro hSB6
              try simp only [Act.put, List.getElem_toArray, List.getElem_cons_zero, List.getElem_cons_succ, List.setIfInBounds_toArray, List.set_cons_zero, List.set_cons_succ]
              refine wpAnyG_takeP (i := 7) (v := ?_) rfl (by kernel_rfl) (by kernel_rfl) (by kernel_rfl) (fun _ _ _ h => h) rfl (Or.inl ⟨by rfl, ?_⟩) (by assumption) ?_
              rotate_left
              · intro Y _; go_simp; try with_reducible rfl
              intro hSB7
              try simp only [Act.put, List.getElem_toArray, List.getElem_cons_zero, List.getElem_cons_succ, List.setIfInBounds_toArray, List.set_cons_zero]
              refine wpAnyG_done (by kernel_rfl) ?_ _
              clear hSB hSB0 hSB1 hSB4 hSB5 hSB2 hSB3 hSB6 hSB7
              have HZ : Hid ((∀ Y, Below w.heap.size w Y → PrV Y (some ⟨b1, o1, none⟩) (n - (i + 1)) (0) (l.drop (i + 1))) ∧ (∀ Y, Below w.heap.size w Y → PrV Y (some ⟨b2, o2, none⟩) (n2 - (j)) (cx2) (m.drop (j))) ∧ ∃ A, W6.ownsRow w.heap.size 32 2 (.slice ad6 (k + 1) c6) (k + 1) (prCells A) ∧ joinL l m = A ++ joinL (l.drop (i + 1)) (m.drop (j)) ∧ Below w.heap.size w W6) := by
                refine ⟨(fun Y hY => by have := prV_last (HP.out.1 Y hY) (by omega) rfl; rw [HD.out.2.2.1] at this; rw [← Nat.sub_sub]; exact this), HP.out.2, A ++ [(x, y)], hown6, ?_, H4.out.2.2.1.trans ((vb_drew (((Below.refl _ W4).alloc (Nat.le_refl _) _).mono H4.out.2.2.2.2)).trans hB6)⟩
                rw [H4.out.2.1, HD.out.1, HD.out.2.1, joinL_more hxu, List.append_assoc]
                try rfl
              clear hown6 hB6 H4 HP HS4 q1 q2 q3 q4 hx5 hx6
              go_wp2
              go_roundw
              case rel => exact ⟨i + 1, j, k + 1, some ⟨b1, o1, none⟩, some ⟨b2, o2, none⟩, ad6, 0, cx2, c6, by omega, by omega, by omega, by rw [show n - (i + 1) = 0 by omega], rfl, rfl, HZ.out⟩
              case measure => simp [sliceLen]; omega
            · skip
              go_upto_region 8 with fail
              refine wp_region_G (S := SB 2 (fun Y => Y.cell? ⟨wr.heap.size + 1, 0, none⟩ = some (.int .u64 (x : Int)) ∧ Y.cell? ⟨wr.heap.size + 1, 1, none⟩ = some (.int .u64 (y : Int))) (fun _ => True)) hmx ?_
              have hSB : SB 2 (fun Y => Y.cell? ⟨wr.heap.size + 1, 0, none⟩ = some (.int .u64 (x : Int)) ∧ Y.cell? ⟨wr.heap.size + 1, 1, none⟩ = some (.int .u64 (y : Int))) (fun _ => True) (Array.replicate 8 false) W4.drew := SB.on ⟨q1, q2⟩ trivial
              refine wpAnyG_takeP (i := 0) (v := ?_) rfl (by kernel_rfl) (by kernel_rfl) (by kernel_rfl) (fun _ _ _ h => h) rfl (Or.inl ⟨by rfl, ?_⟩) (by assumption) ?_
              rotate_left
              · intro Y _; go_simp; try with_reducible rfl
              intro hSB0
              try simp only [Act.put, List.getElem_toArray, List.getElem_cons_zero, List.setIfInBounds_toArray, List.set_cons_zero, List.set_cons_succ]
              refine wpAnyG_takeB (i := 1) (b := 2) (v := ?_) rfl (by kernel_rfl) (by kernel_rfl) (by kernel_rfl) (fun _ _ _ h => h) rfl (by kernel_rfl) (by rfl) (by kernel_rfl) (Or.inl ⟨by rfl, ?_⟩) (by assumption) ?_
              rotate_left
              · intro Y hY; obtain ⟨⟨y1, y2⟩, _⟩ := hY; go_simp; try with_reducible rfl
              intro hSB1
              try simp only [Act.put, List.getElem_toArray, List.getElem_cons_zero, List.getElem_cons_succ, List.setIfInBounds_toArray, List.set_cons_zero, List.set_cons_succ]
              refine wpAnyG_takeP (i := 4) (v := ?_) rfl (by kernel_rfl) (by kernel_rfl) (by kernel_rfl) (fun _ _ _ h => h) rfl (Or.inl ⟨by rfl, ?_⟩) (by assumption) ?_
              rotate_left
              · intro Y _; go_simp; try with_reducible rfl
              intro hSB4
              try simp only [Act.put, List.getElem_toArray, List.getElem_cons_zero, List.getElem_cons_succ, List.setIfInBounds_toArray, List.set_cons_zero, List.set_cons_succ]
              refine wpAnyG_takeP (i := 5) (v := ?_) rfl (by kernel_rfl) (by kernel_rfl) (by kernel_rfl) (fun _ _ _ h => h) rfl (Or.inl ⟨by rfl, ?_⟩) (by assumption) ?_
              rotate_left
              · intro Y _; go_simp; try with_reducible rfl
              intro hSB5
              try simp only [Act.put, List.getElem_toArray, List.getElem_cons_zero, List.getElem_cons_succ, List.setIfInBounds_toArray, List.set_cons_zero, List.set_cons_succ]
              refine wpAnyG_one (i := 2) (by kernel_rfl) rfl (fun K hK => ?_)
              go_simp
              refine hK.out _ _ (SB.off (by rfl) trivial) (fun hSB2 => ?_)
              clear hK K
              try simp only [Act.put, List.getElem_toArray, List.getElem_cons_zero, List.getElem_cons_succ, List.setIfInBounds_toArray, List.set_cons_zero, List.set_cons_succ]
              refine wpAnyG_one (i := 3) (by kernel_rfl) rfl (fun K hK => ?_)
              refine vstep_appP _ (by rfl) _ _ (by rfl) w.heap.size k (by have := H4.out.2.2.2.2; simp; omega) _ A (by rfl) (row_keptV H4.out.1 (vb_drew ((Below.refl _ W4).alloc (Nat.le_refl _) (.cells #[.int .u64 (x : Int), .int .u64 (y : Int)] 32)))) W4.heap.size (x, y) (by rfl) (prs_one W4 x y) (by omega) ?_
              intro ad6 c6 W6 hown6 hB6
              refine hK.out _ _ (SB.off (by rfl) trivial) (fun hSB3 => ?_)
              clear hK K
              try simp only [Act.put, List.getElem_toArray, List.getElem_cons_zero, List.getElem_cons_succ, List.setIfInBounds_toArray, List.set_cons_zero, List.set_cons_succ]
              refine wpAnyG_takeP (i := 6) (v := ?_) rfl (by kernel_rfl) (by kernel_rfl) (by kernel_rfl) (fun _ _ _ h => h) rfl (Or.inl ⟨by rfl, ?_⟩) (by assumption) ?_
              rotate_left
              · intro Y _; go_simp; try with_reducible rfl
              intro hSB6
              try simp only [Act.put, List.getElem_toArray, List.getElem_cons_zero, List.getElem_cons_succ, List.setIfInBounds_toArray, List.set_cons_zero, List.set_cons_succ]
              refine wpAnyG_takeP (i := 7) (v := ?_) rfl (by kernel_rfl) (by kernel_rfl) (by kernel_rfl) (fun _ _ _ h => h) rfl (Or.inl ⟨by rfl, ?_⟩) (by assumption) ?_
              rotate_left
              · intro Y _; go_simp; try with_reducible rfl
              intro hSB7
              try simp only [Act.put, List.getElem_toArray, List.getElem_cons_zero, List.getElem_cons_succ, List.setIfInBounds_toArray, List.set_cons_zero]
              refine wpAnyG_done (by kernel_rfl) ?_ _
              clear hSB hSB0 hSB1 hSB4 hSB5 hSB2 hSB3 hSB6 hSB7
              have HZ : Hid ((∀ Y, Below w.heap.size w Y → PrV Y (some ⟨b1, o1 + 2, none⟩) (n - (i + 1)) (cx - 1) (l.drop (i + 1))) ∧ (∀ Y, Below w.heap.size w Y → PrV Y (some ⟨b2, o2, none⟩) (n2 - (j)) (cx2) (m.drop (j))) ∧ ∃ A, W6.ownsRow w.heap.size 32 2 (.slice ad6 (k + 1) c6) (k + 1) (prCells A) ∧ joinL l m = A ++ joinL (l.drop (i + 1)) (m.drop (j)) ∧ Below w.heap.size w W6) := by
                refine ⟨(fun Y hY => by have := prV_tail (HP.out.1 Y hY) (by omega); rw [HD.out.2.2.1] at this; rw [← Nat.sub_sub]; exact this), HP.out.2, A ++ [(x, y)], hown6, ?_, H4.out.2.2.1.trans ((vb_drew (((Below.refl _ W4).alloc (Nat.le_refl _) _).mono H4.out.2.2.2.2)).trans hB6)⟩
                rw [H4.out.2.1, HD.out.1, HD.out.2.1, joinL_more hxu, List.append_assoc]
                try rfl
              clear hown6 hB6 H4 HP HS4 q1 q2 q3 q4 hx5 hx6
              go_wp2
              go_roundw
              case rel => exact ⟨i + 1, j, k + 1, some ⟨b1, o1 + 2, none⟩, some ⟨b2, o2, none⟩, ad6, cx - 1, cx2, c6, by omega, by omega, by omega, by rw [Nat.sub_sub], rfl, rfl, HZ.out⟩
              case measure => simp [sliceLen]; omega
    · obtain ⟨hp1, hp2, A, hrow, hjo, hBw⟩ := H.out
      have hA : A.length = k := by have := hrow.1; rw [prCells_len] at this; omega
      have HJ : Hid (joinL l m = A ++ l.drop i ++ m.drop j) := by
        show _ = _
        rw [hjo, List.append_assoc]
        by_cases h1 : i < n
        · rw [List.drop_of_length_le (l := m) (by rw [HL.out.2.2.2]; omega), joinL_nil, List.append_nil]
        · rw [List.drop_of_length_le (l := l) (by rw [HL.out.2.2.1]; omega), joinL, List.nil_append]
      have H5 : Hid (PrV wr ax (n - i) cx (l.drop i) ∧ (∀ Y, Below w.heap.size w Y → PrV Y ax2 (n2 - j) cx2 (m.drop j)) ∧ wr.ownsRow w.heap.size 32 2 (.slice ad k cap) k (prCells A) ∧ Below w.heap.size w wr) := ⟨hp1 wr hBw, hp2, hrow, hBw⟩
      clear hp1 hp2 hrow hjo hBw H hA
      by_cases h1 : i < n
      · have i1 : (0 : Int) < ((n - i : Nat) : Int) := by omega
        have i2 : ¬ (0 : Int) < ((n2 - j : Nat) : Int) := by omega
        have i3 : 0 < n - i := by omega
        have i4 : ¬ 0 < n2 - j := by omega
        go_wp2_with first
          | (at_builtin; refine wpList_appV rfl _ _ rfl w.heap.size (k + (n - i)) (n2 - j) cx2 (.slice a6 (k + (n - i)) c6) (A ++ l.drop i) (m.drop j) ax2 rfl rfl H6.out.1 (H5.out.2.1 _ H6.out.2).prs (H5.out.2.1 _ H6.out.2).nil (by omega) H6.out.2.size ?_; intro a7 c7 w7 _ hown7 hB7)
          | (at_builtin; refine wpList_appV rfl _ _ rfl w.heap.size k (n - i) cx (.slice ad k cap) A (l.drop i) ax rfl rfl H5.out.2.2.1 H5.out.1.prs H5.out.1.nil (by omega) H5.out.2.2.2.size ?_; intro a6 c6 w6 _ hown6 hB6; have H6 : Hid (w6.ownsRow w.heap.size 32 2 (.slice a6 (k + (n - i)) c6) (k + (n - i)) (prCells (A ++ l.drop i)) ∧ Below w.heap.size w w6) := ⟨hown6, H5.out.2.2.2.trans hB6⟩; clear hown6 hB6)
        have H7 : Hid (w7.ownsRow w.heap.size 32 2 (.slice a7 (k + (n - i) + (n2 - j)) c7) (k + (n - i) + (n2 - j)) (prCells (joinL l m)) ∧ Below w.heap.size w w7) := ⟨by rw [HJ.out]; exact hown7, H6.out.2.trans hB7⟩
        clear hown7 hB7
        go_ret
        obtain ⟨ad8, c8, e8, hpv, _⟩ := own_prv H7.out.1
        cases e8
        exact ⟨_, _, _, rfl, hpv, H7.out.2⟩
      · have i1 : ¬ (0 : Int) < ((n - i : Nat) : Int) := by omega
        have i3 : ¬ 0 < n - i := by omega
        go_wp2_with first
          | (at_builtin; refine wpList_appV rfl _ _ rfl w.heap.size (k + (n - i)) (n2 - j) cx2 (.slice a6 (k + (n - i)) c6) (A ++ l.drop i) (m.drop j) ax2 rfl rfl H6.out.1 (H5.out.2.1 _ H6.out.2).prs (H5.out.2.1 _ H6.out.2).nil (by omega) H6.out.2.size ?_; intro a7 c7 w7 _ hown7 hB7)
          | (at_builtin; refine wpList_appV rfl _ _ rfl w.heap.size k (n - i) cx (.slice ad k cap) A (l.drop i) ax rfl rfl H5.out.2.2.1 H5.out.1.prs H5.out.1.nil (by omega) H5.out.2.2.2.size ?_; intro a6 c6 w6 _ hown6 hB6; have H6 : Hid (w6.ownsRow w.heap.size 32 2 (.slice a6 (k + (n - i)) c6) (k + (n - i)) (prCells (A ++ l.drop i)) ∧ Below w.heap.size w w6) := ⟨hown6, H5.out.2.2.2.trans hB6⟩; clear hown6 hB6)
        have H7 : Hid (w7.ownsRow w.heap.size 32 2 (.slice a7 (k + (n - i) + (n2 - j)) c7) (k + (n - i) + (n2 - j)) (prCells (joinL l m)) ∧ Below w.heap.size w w7) := ⟨by rw [HJ.out]; exact hown7, H6.out.2.trans hB7⟩
        clear hown7 hB7
        go_ret
        obtain ⟨ad8, c8, e8, hpv, _⟩ := own_prv H7.out.1
        cases e8
        exact ⟨_, _, _, rfl, hpv, H7.out.2⟩
end Go.Proofs.Ytfkepoibgmljkaa
