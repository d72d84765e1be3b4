import Derived.Test.YtdjodigimhgklaaGreatDoorMD24
import Derived.Test.YtdjodigimhgklaaGreatDoorMD16
import Derived.Test.YtdjodigimhgklaaGreatDoorMD13
import Derived.Test.YtdjodigimhgklaaGreatDoorMD05
import Derived.Test.YtdjodigimhgklaaGreatDoorMD18
import Derived.Test.YtdjodigimhgklaaGreatDoorMD03
import Derived.Test.YtdjodigimhgklaaGreatDoorMD15
import Derived.Test.YtdjodigimhgklaaGreatDoorMD21
import Derived.Test.YtdjodigimhgklaaGreatDoorMD07
import Derived.Test.YtdjodigimhgklaaGreatDoorMD23
/- The memo's left: run files that do not count. -/
namespace Go.Proofs.YtdjodigimhgklaaGreatDoor
open Go.RowKit Go.Shelf Go.Maps

attribute [local go_sem] Oper.semAt_some

theorem index_any (w : World) (a : Option Addr) (n c : Nat) (l : List Nat) (h : NsV w a n l) (x : Nat) (hn : n ≤ 1000000) :
    Calls Tryz.prog 129 #[.slice a n c, nV x] w fun e w' => (∃ i : Int, e = .returned (.int .i64 i) ∧ (0 ≤ i ↔ x ∈ l)) ∧ w' = w := by
  have hl := h.1
  go_enter Tryz.func129, Tryz.ntmps129
  go_wp2
  go_loopw [8] (fun i wr => ∃ k : Nat, k ≤ n ∧ i = .int .i64 (k : Int) ∧ wr = w ∧ Hid (x ∉ l.take k)) (fun i _ => n - (intOf i).toNat)
  case atStart => exact ⟨0, Nat.zero_le _, rfl, rfl, by simp [Hid]⟩
  case round =>
    obtain ⟨k, hk, rfl, rfl, H⟩ := hrel
    by_cases hlt : k < n
    · obtain ⟨y, hy⟩ : ∃ y, l[k]? = some y := ⟨_, List.getElem?_eq_getElem (by omega)⟩
      obtain ⟨b1, o1, rfl, hc1⟩ := h.2 (by omega)
      have t1 := hc1 k y hy
      have i1 : (k : Int) < (n : Int) := by omega
      have i2 : ¬ n ≤ k := by omega
      have hm := List.mem_of_getElem? hy
      have HT : Hid (l.take (k + 1) = l.take k ++ [y]) := (by rw [List.take_add_one, hy]; rfl : l.take (k + 1) = l.take k ++ [y])
      clear hc1 hy
      by_cases e : x = y
      · have i3 : ((x : Int) == (y : Int)) = true := by simp [e]
        have HX : Hid (x ∈ l) := by rw [e]; exact hm
        clear e hm
        go_wp2
        go_ret
        exact ⟨⟨_, rfl, fun _ => HX.out, fun _ => by omega⟩, rfl⟩
      · have i3 : ((x : Int) == (y : Int)) = false := by simp; omega
        have HX : Hid (x ∉ l.take (k + 1)) := (by rw [HT.out]; simp only [List.mem_append, List.mem_singleton, not_or]; exact ⟨H.out, e⟩ : x ∉ l.take (k + 1))
        clear e hm
        go_wp2
        go_roundw
        case rel => exact ⟨k + 1, by omega, by go_num, trivial, HX⟩
        case measure => simp [intOf]; omega
    · obtain rfl : k = n := by omega
      have HX : Hid (x ∉ l) := by
        have := H.out
        rwa [List.take_of_length_le (by omega)] at this
      have i1 : ¬ (k : Int) < (k : Int) := by omega
      clear H
      go_wp2
      go_ret
      exact ⟨⟨_, rfl, fun h => by omega, fun h => absurd h HX.out⟩, rfl⟩
theorem contains_any (w : World) (a : Option Addr) (n c : Nat) (l : List Nat) (h : NsV w a n l) (x : Nat) (hn : n ≤ 1000000) :
    Calls Tryz.prog 86 #[.slice a n c, nV x] w fun e w' => e = .returned (.bool (decide (x ∈ l))) ∧ w' = w := by
  have hi := index_any w a n c l h x hn
  go_enter Tryz.func86, Tryz.ntmps86
  by_cases hx : x ∈ l
  · have HX : Hid (decide (x ∈ l) = true) := decide_eq_true hx
    go_wp2_with (go_at_call 129; refine hi.mono ?_; clear hi; rintro e w1 ⟨⟨i, rfl, hii⟩, hw1⟩; subst hw1)
    have i1 : (0 : Int) ≤ i := hii.2 hx
    clear hii
    go_wp2
    go_ret
    exact ⟨by first | rfl | (rw [HX.out]; rfl) | (rw [HX.out]; simp [i1]), rfl⟩
  · have HX : Hid (decide (x ∈ l) = false) := decide_eq_false hx
    go_wp2_with (go_at_call 129; refine hi.mono ?_; clear hi; rintro e w1 ⟨⟨i, rfl, hii⟩, hw1⟩; subst hw1)
    have i1 : ¬ (0 : Int) ≤ i := fun h => hx (hii.1 h)
    clear hii
    go_wp2
    go_ret
    exact ⟨by first | rfl | (rw [HX.out]; rfl) | (rw [HX.out]; simp [i1]), rfl⟩
theorem infoI : (Tryz.prog.info? 3).map (fun i => (i.zero, i.size, i.bytes)) = some (some (.int .i64 0), 1, 8) := by kernel_rfl
theorem encStr_list (x : List UInt8) : ∃ s : ByteArray, encStr x = .string s ∧ s.data.toList = x := ⟨⟨x.toArray⟩, rfl, by simp⟩
/-- the numbers of the run files that do not count -/
def leftL (key : Nat) (runs : List Nat) : List (List UInt8) → List Nat
  | [] => []
  | x :: r => if (whoP x).1 = key ∧ 0 < (whoP x).2 ∧ (whoP x).2 ∉ runs then (whoP x).2 :: leftL key runs r else leftL key runs r
theorem leftL_app (key : Nat) (runs : List Nat) : ∀ a b, leftL key runs (a ++ b) = leftL key runs a ++ leftL key runs b
  | [], b => rfl
  | x :: r, b => by
    simp only [List.cons_append, leftL, leftL_app key runs r b]
    split <;> rfl
theorem leftL_len (key : Nat) (runs : List Nat) : ∀ a, (leftL key runs a).length ≤ a.length
  | [] => Nat.le_refl _
  | x :: r => by
    have := leftL_len key runs r
    simp only [leftL]
    split <;> simp only [List.length_cons] <;> omega
theorem irow_al {w : World} {B n : Nat} {v : Value} {xs : List Value} (h : w.ownsRow B 3 1 v n xs) (o : Obj) : (w.alloc o).ownsRow B 3 1 v n xs :=
  yrow_move h fun g e => Below.heap_alloc _ _ _ (nrow_block h g e).2.1
theorem cell_one_newI (w : World) (x : Nat) : ∀ (j : Nat) u, ([nV x] : List Value)[j]? = some u → (w.alloc (.cells #[nV x] 3)).cell? (Addr.add ⟨w.heap.size, 0, none⟩ j) = some u := by
  intro j u hj
  match j, hj with
  | 0, hj => simp at hj; subst hj; simp [Addr.add]
/-- what left answers -/
def LeftA (w : World) (key : Nat) (runs : List Nat) (S : DG) (e : Ending) (w' : World) : Prop :=
  ∃ ns ad c, S.Lists ns ∧ e = .returned (.slice ad (leftL key runs ns).length c) ∧ w'.ownsRow w.heap.size 3 1 (.slice ad (leftL key runs ns).length c) (leftL key runs ns).length ((leftL key runs ns).map nV) ∧ Below w.heap.size w w'

set_option maxRecDepth 100000 in
set_option maxHeartbeats 4000000 in
theorem yleft_any (w : World) (m d j : Nat) (g : Me) (vr : Value) (pa : Option Addr) (pc : Nat) (F : Nat → Prop) (h : MeAt w m d j g vr pa pc F) (S : DG) (G : Nat → Prop) (hd : IsDisk w d S G) (hnm : ∀ x, (S.f x).isSome = true → x.length ≤ 32) (hn : S.n ≤ 1000000) (hr : g.runs.length ≤ 1000) :
    Calls Tryz.prog 41 #[.pointer (some ⟨m, 0, none⟩)] w (LeftA w g.key g.runs S) := by
  have hns := names_any d S G w hd hn
  obtain ⟨c0, _⟩ := h.cells
  obtain ⟨ra, rc, rfl, hrc, hrn⟩ := nrow_shape h.row
  have HM : Hid (MeAt w m d j g (.slice ra g.runs.length rc) pa pc F ∧ NsV w ra g.runs.length g.runs) := ⟨h, nrow_ns h.row⟩
  clear h hrc hrn
  go_enter Tryz.func41, Tryz.ntmps41
  go_wp2_with (go_at_call 26; refine hns.mono ?_; clear hns; rintro e w1 ⟨ns, na, nc, rfl, hLs, hown, hB1⟩)
  obtain ⟨ad0, c0', e0, _, _, hcell⟩ := ownsRow_strs hown
  cases e0
  have H1 : Hid (S.Lists ns ∧ (∀ i x, ns[i]? = some x → ∃ b, na = some ⟨b, 0, none⟩ ∧ b < w1.heap.size ∧ w1.cell? ⟨b, i, none⟩ = some (encStr x)) ∧ Below w.heap.size w w1) := ⟨hLs, fun i x hx => by
    obtain ⟨b, h1, _, h3, h4⟩ := hcell i (encStr x) (by rw [List.getElem?_map, hx]; rfl)
    exact ⟨b, h1, h3, h4⟩, hB1⟩
  have hlen : ns.length ≤ 1000000 := by rw [hLs.len]; exact hn
  clear hLs hown hB1 hcell c0
  obtain ⟨N, hN⟩ : ∃ N, N = ns.length := ⟨_, rfl⟩
  have HN : Hid (N = ns.length) := hN
  rw [← hN]
  rw [← hN] at hlen
  clear hN
  obtain ⟨i0, hi, hz0, hz1, hz2⟩ := info_parts infoI
  go_wp2_with fail
  go_loopw [3, 14] (fun v i wr => ∃ (k q : Nat) (la : Option Addr) (lc : Nat), k ≤ N ∧ q ≤ k ∧ i = .int .i64 (k : Int) ∧ v = .slice la q lc ∧ Hid (q = (leftL g.key g.runs (ns.take k)).length ∧ wr.ownsRow w1.heap.size 3 1 (.slice la q lc) q ((leftL g.key g.runs (ns.take k)).map nV) ∧ Below w1.heap.size w1 wr)) (fun _ i _ => N - (intOf i).toNat)
  case atStart => exact ⟨0, 0, none, 0, Nat.zero_le _, Nat.le_refl _, rfl, rfl, rfl, World.ownsRow_nil _ _ _ _, Below.refl _ _⟩
  case round =>
    obtain ⟨k, q, la, lc, hk, hqk, rfl, rfl, H⟩ := hrel
    by_cases hlt : k < N
    · obtain ⟨x, hx⟩ : ∃ x, ns[k]? = some x := ⟨_, List.getElem?_eq_getElem (by rw [← HN.out]; exact hlt)⟩
      obtain ⟨b1, rfl, hb1, t0⟩ := H1.out.2.1 k x hx
      have t1 := (H.out.2.2.cell (p := ⟨b1, k, none⟩) hb1).trans t0
      obtain ⟨s, hs1, hs2⟩ := encStr_list x
      rw [hs1] at t1
      have hx32 := hnm x (H1.out.1.mem x (List.mem_of_getElem? hx)).1
      have hwho := whose_any s wr (by have : s.data.toList.length = s.size := by simp
                                      rw [hs2] at this; omega)
      rw [hs2] at hwho
      obtain ⟨K, hK⟩ : ∃ K, K = (whoP x).1 := ⟨_, rfl⟩
      obtain ⟨R, hR⟩ : ∃ R, R = (whoP x).2 := ⟨_, rfl⟩
      rw [← hK, ← hR] at hwho
      have hBw := H1.out.2.2.trans (H.out.2.2.mono H1.out.2.2.size)
      obtain ⟨_, m1, _, m3, _⟩ := (HM.out.1.below hBw |> fun z => (z.cells))
      have hct := contains_any wr ra g.runs.length rc g.runs (HM.out.2.below hBw) R (by omega)
      have i1 : (k : Int) < (N : Int) := by omega
      have i2 : ¬ N ≤ k := by omega
      have HE : Hid (ns.take (k + 1) = ns.take k ++ [x] ∧ (K = g.key ∧ 0 < R ∧ R ∉ g.runs → leftL g.key g.runs [x] = [R]) ∧ (¬ (K = g.key ∧ 0 < R ∧ R ∉ g.runs) → leftL g.key g.runs [x] = [])) := by
        refine ⟨by rw [List.take_add_one, hx]; rfl, fun h => ?_, fun h => ?_⟩
        · rw [leftL, ← hK, ← hR, if_pos h]; rfl
        · rw [leftL, ← hK, ← hR, if_neg h]; rfl
      clear hx t0 hs1 hs2 hx32 hK hR hb1
      by_cases hk1 : K = g.key
      · have a1 : ((K : Int) == (g.key : Int)) = true := by simp [hk1]
        by_cases hr1 : 0 < R
        · have a2 : (0 : Int) < (R : Int) := by omega
          by_cases hin : R ∈ g.runs
          · rw [decide_eq_true hin] at hct
            have HZ : Hid (q = (leftL g.key g.runs (ns.take (k + 1))).length ∧ wr.ownsRow w1.heap.size 3 1 (.slice la q lc) q ((leftL g.key g.runs (ns.take (k + 1))).map nV) ∧ Below w1.heap.size w1 wr) := by
              rw [HE.out.1, leftL_app, HE.out.2.2 (by rintro ⟨_, _, h⟩; exact h hin), List.append_nil]
              exact H.out
            clear HE H hBw
            go_wp2_with first
              | (go_at_call 86; refine hct.mono ?_; clear hct; rintro e w3 ⟨rfl, hw3⟩; subst hw3)
              | (go_at_call 52; refine hwho.mono ?_; clear hwho; rintro e w2 ⟨rfl, hw2⟩; subst hw2)
            go_roundw
            case rel => exact ⟨k + 1, q, la, lc, by omega, by omega, by go_num, rfl, HZ.out⟩
            case measure => simp [intOf]; omega
          · rw [decide_eq_false hin] at hct
            have HG := HE.out.2.1 ⟨hk1, hr1, hin⟩
            have HG2 : Hid (leftL g.key g.runs [x] = [R]) := HG
            clear HG
            have hrow' := irow_al H.out.2.1 (.cells #[nV R] 3)
            have hsz := H.out.2.2.size
            go_wp2_with first
              | (at_builtin; refine wpList_append_own_at _ rfl _ _ 73 rfl w1.heap.size 3 i0 _ 1 8 Tryz.underlying73 hi hz0 hz1 hz2 rfl (by decide) _ q _ rfl hrow' ⟨_, 0, none⟩ 1 1 [nV R] rfl (by exact rfl) (by simpa using cell_one_newI _ R) (by simp [Value.oneCell']) (by unfold maxLen; omega) (by omega) (by simp; omega) ?_; intro v6 w6 hown6 hgr6 _ _)
              | (go_at_call 86; refine hct.mono ?_; clear hct; rintro e w3 ⟨rfl, hw3⟩; subst hw3)
              | (go_at_call 52; refine hwho.mono ?_; clear hwho; rintro e w2 ⟨rfl, hw2⟩; subst hw2)
            obtain ⟨la6, lc6, rfl, _⟩ := nrow_shape hown6
            have HZ : Hid (q + 1 = (leftL g.key g.runs (ns.take (k + 1))).length ∧ w6.ownsRow w1.heap.size 3 1 (.slice la6 (q + 1) lc6) (q + 1) ((leftL g.key g.runs (ns.take (k + 1))).map nV) ∧ Below w1.heap.size w1 w6) := by
              rw [HE.out.1, leftL_app, HG2.out]
              refine ⟨by rw [List.length_append, ← H.out.1]; rfl, by rw [List.map_append]; exact hown6, (H.out.2.2.alloc hsz _).grown hgr6 (by simp; omega) (fun z hz => (nrow_block hrow' z hz).1)⟩
            clear HE H hBw hown6 hgr6 HG2
            go_roundw
            case rel => exact ⟨k + 1, q + 1, la6, lc6, by omega, by omega, by go_num, rfl, HZ.out⟩
            case measure => simp [intOf]; omega
        · have a2 : ¬ (0 : Int) < (R : Int) := by omega
          have HZ : Hid (q = (leftL g.key g.runs (ns.take (k + 1))).length ∧ wr.ownsRow w1.heap.size 3 1 (.slice la q lc) q ((leftL g.key g.runs (ns.take (k + 1))).map nV) ∧ Below w1.heap.size w1 wr) := by
            rw [HE.out.1, leftL_app, HE.out.2.2 (by rintro ⟨_, h, _⟩; exact hr1 h), List.append_nil]
            exact H.out
          clear HE H hBw
          go_wp2_with first
            | (go_at_call 86; refine hct.mono ?_; clear hct; rintro e w3 ⟨rfl, hw3⟩; subst hw3)
            | (go_at_call 52; refine hwho.mono ?_; clear hwho; rintro e w2 ⟨rfl, hw2⟩; subst hw2)
          go_roundw
          case rel => exact ⟨k + 1, q, la, lc, by omega, by omega, by go_num, rfl, HZ.out⟩
          case measure => simp [intOf]; omega
      · have a1 : ((K : Int) == (g.key : Int)) = false := by simp; omega
        have HZ : Hid (q = (leftL g.key g.runs (ns.take (k + 1))).length ∧ wr.ownsRow w1.heap.size 3 1 (.slice la q lc) q ((leftL g.key g.runs (ns.take (k + 1))).map nV) ∧ Below w1.heap.size w1 wr) := by
          rw [HE.out.1, leftL_app, HE.out.2.2 (by rintro ⟨h, _, _⟩; exact hk1 h), List.append_nil]
          exact H.out
        clear HE H hBw
        go_wp2_with first
          | (go_at_call 86; refine hct.mono ?_; clear hct; rintro e w3 ⟨rfl, hw3⟩; subst hw3)
          | (go_at_call 52; refine hwho.mono ?_; clear hwho; rintro e w2 ⟨rfl, hw2⟩; subst hw2)
        go_roundw
        case rel => exact ⟨k + 1, q, la, lc, by omega, by omega, by go_num, rfl, HZ.out⟩
        case measure => simp [intOf]; omega
    · obtain rfl : k = N := by omega
      have HZ : Hid (LeftA w g.key g.runs S (.returned (.slice la q lc)) wr) := by
        have e : ns.take k = ns := List.take_of_length_le (by rw [← HN.out]; exact Nat.le_refl _)
        have h1 := H.out
        rw [e] at h1
        obtain ⟨h1, h2, h3⟩ := h1
        refine ⟨ns, la, lc, H1.out.1, by rw [← h1], ?_, H1.out.2.2.trans (h3.mono H1.out.2.2.size)⟩
        rw [← h1]
        exact ⟨h2.1, h2.2.imp id fun ⟨z, cap, cur, a1, a2, a3⟩ => ⟨z, cap, cur, a1, Nat.le_trans H1.out.2.2.size a2, a3⟩⟩
      have i1 : ¬ (k : Int) < (k : Int) := by omega
      clear H
      go_wp2
      go_ret
      exact HZ.out
end Go.Proofs.YtdjodigimhgklaaGreatDoor

/- A memo on its disk, with its journal. -/
namespace Go.Proofs.YtdjodigimhgklaaGreatDoor
open Go.RowKit Go.Shelf Go.Maps

attribute [local go_sem] Oper.semAt_some

/-- the name of a memo's journal -/
abbrev nm0 (key : Nat) : ByteArray := ⟨(nmB key 0).toArray⟩
/-- a memo in memory, its journal, its disk; all of it within Q -/
def MS (Q : Nat → Prop) (w : World) (m d j : Nat) (g : Me) (rs : List (List UInt8)) (sz : Nat) (jc : Bool) (S : DG) : Prop :=
  ∃ vr pa pc FM FJ G, MeAt w m d j g vr pa pc FM ∧ JAt w j d (nm0 g.key) rs sz jc FJ ∧ IsDisk w d S G ∧ (∀ k, FM k → ¬ FJ k ∧ ¬ G k) ∧ (∀ k, FJ k → ¬ G k) ∧ ∀ k, (FM k ∨ FJ k ∨ G k) → Q k
theorem MS.wide {Q Q' : Nat → Prop} {w : World} {m d j : Nat} {g : Me} {rs : List (List UInt8)} {sz : Nat} {jc : Bool} {S : DG} (h : MS Q w m d j g rs sz jc S) (hq : ∀ k, Q k → Q' k) : MS Q' w m d j g rs sz jc S := by
  obtain ⟨vr, pa, pc, FM, FJ, G, h1, h2, h3, h4, h5, h6⟩ := h
  exact ⟨vr, pa, pc, FM, FJ, G, h1, h2, h3, h4, h5, fun k hk => hq k (h6 k hk)⟩
theorem MS.turn {Q X : Nat → Prop} {w w' : World} {m d j : Nat} {g : Me} {rs : List (List UInt8)} {sz : Nat} {jc : Bool} {S : DG} (h : MS Q w m d j g rs sz jc S) (hT : Turn X w w') (hX : ∀ k, Q k → ¬ X k) : MS Q w' m d j g rs sz jc S := by
  obtain ⟨vr, pa, pc, FM, FJ, G, h1, h2, h3, h4, h5, h6⟩ := h
  refine ⟨vr, pa, pc, FM, FJ, G, h1.turn hT fun k hk => hX k (h6 k (.inl hk)), ?_, h3.turn hT fun k hk => hX k (h6 k (.inr (.inr hk))), h4, h5, h6⟩
  exact h2.kept hT.size fun k hk => hT.block k (h2.lt k hk) (hX k (h6 k (.inr (.inl hk))))
theorem MS.below {Q : Nat → Prop} {w w' : World} {m d j : Nat} {g : Me} {rs : List (List UInt8)} {sz : Nat} {jc : Bool} {S : DG} (h : MS Q w m d j g rs sz jc S) (hB : Below w.heap.size w w') : MS Q w' m d j g rs sz jc S :=
  h.turn (Turn.of_below (fun _ => False) hB) fun _ _ => id
theorem seven_set {W : World} {m : Nat} {c0 c1 c2 c3 c4 c5 c6 : Value} {t : TypeId} (h : W.heap[m]? = some (.cells #[c0, c1, c2, c3, c4, c5, c6] t (0, 0))) (a b c : Value) :
    (((W.setCell ⟨m, 3, none⟩ a).setCell ⟨m, 4, none⟩ b).setCell ⟨m, 5, none⟩ c).heap[m]? = some (.cells #[c0, c1, c2, a, b, c, c6] t (0, 0)) := by
  simp [World.setCell, Array.getElem?_modify, h, Array.setIfInBounds]
theorem seven_set6 {W : World} {m : Nat} {c0 c1 c2 c3 c4 c5 c6 : Value} {t : TypeId} (h : W.heap[m]? = some (.cells #[c0, c1, c2, c3, c4, c5, c6] t (0, 0))) (a : Value) :
    (W.setCell ⟨m, 6, none⟩ a).heap[m]? = some (.cells #[c0, c1, c2, c3, c4, c5, a] t (0, 0)) := by
  simp [World.setCell, Array.getElem?_modify, h, Array.setIfInBounds]
theorem ris_good {l : List Pr} (h : Ris l) (hok : PrOk l) (h0 : ∀ p ∈ l, p.1 ≠ 0) (hn : l.length ≤ 65536) : GoodV l := ⟨hok, (risF_iff l 0).2 ⟨h, fun p hp => by have := h0 p hp; omega⟩, hn⟩
theorem nm_len (key n : Nat) (hn : n < 100) : (⟨(nmB key n).toArray⟩ : ByteArray).size ≤ 24 := by
  have hd : ∀ n < 100, (Lib.decDigits n).length ≤ 2 := by decide +kernel
  have := hd n hn
  show (nmB key n).toArray.size ≤ 24
  rw [List.size_toArray]
  unfold nmB
  rw [List.length_append, List.length_append, hexOf_len]
  split
  · simp
  · simp only [List.length_cons, List.length_nil]; omega
theorem nm_list (key n : Nat) : (⟨(nmB key n).toArray⟩ : ByteArray).data.toList = nmB key n := by simp
end Go.Proofs.YtdjodigimhgklaaGreatDoor

/- The memo's Each and Runs. -/
namespace Go.Proofs.YtdjodigimhgklaaGreatDoor
open Go.RowKit Go.Shelf Go.Maps

attribute [local go_sem] Oper.semAt_some

theorem meach_any (w : World) (p : Option Addr) : Calls Tryz.prog 28 #[.pointer p] w fun e w' => e = .returned (.func (.func 66) #[] #[.pointer (some ⟨w.heap.size, 0, none⟩)]) ∧ w' = w.alloc (.cells #[.pointer p] 28) := by
  go_enter Tryz.func28, Tryz.ntmps28
  go_wp2
  go_ret
  exact ⟨rfl, rfl⟩
set_option maxRecDepth 100000 in
set_option maxHeartbeats 4000000 in
theorem meach_tells_nil (w : World) (Bx : Nat) (hB : Boxed w Bx 28 (.pointer none)) (n : Nat) :
    TellsB Fence.wide n Tryz.prog 66 #[.pointer (some ⟨Bx, 0, none⟩)] prE (fun _ _ _ => False) (fun k => k = Bx) (fun xs => xs = []) w := by
  intro l J Jx W hW hJg hJxg hY h0
  have bB : Boxed W Bx 28 (.pointer none) := (hW.block _ hB.lt).trans hB
  have cB := bB.cell
  have HJ : Hid (J [] W) := h0
  refine callsIn_of_wp Tryz.func66 rfl trivial ?_ rfl
  simp only [Tryz.ntmps66, List.size_toArray, List.length_cons, List.length_nil, Nat.reduceAdd, Nat.reduceSub, Array.replicate_succ, Array.replicate_zero, List.push_toArray, List.append_toArray, List.nil_append, List.cons_append]
  clear hY h0 hJg hJxg hW bB hB
  gi_wp2
  refine bodyPost_ret (results_none rfl _ _ _) rfl ?_
  exact ⟨⟨_, rfl⟩, .inl ⟨[], rfl, HJ.out⟩⟩
set_option maxRecDepth 100000 in
set_option maxHeartbeats 4000000 in
theorem meach_tells (w : World) (m d j : Nat) (g : Me) (vr : Value) (pa : Option Addr) (pc : Nat) (F : Nat → Prop) (h : MeAt w m d j g vr pa pc F) (Bx : Nat) (hB : Boxed w Bx 28 (.pointer (some ⟨m, 0, none⟩))) (n : Nat) (hn : 1 ≤ n) :
    TellsB Fence.wide n Tryz.prog 66 #[.pointer (some ⟨Bx, 0, none⟩)] prE (fun pre x _ => g.ps[pre.length]? = some x) (fun k => k = Bx ∨ F k) (fun xs => xs = g.ps) w := by
  intro l J Jx W hW hJg hJxg hY h0
  have hE := h.below hW
  have bB : Boxed W Bx 28 (.pointer (some ⟨m, 0, none⟩)) := (hW.block _ hB.lt).trans hB
  have HE : Hid (MeAt W m d j g vr pa pc F ∧ Boxed W Bx 28 (.pointer (some ⟨m, 0, none⟩))) := ⟨hE, bB⟩
  have HY : Hid (∀ pre x W1, J pre W1 → g.ps[pre.length]? = some x → YieldAt Fence.wide (n - 1) Tryz.prog l (prE x) W1 fun e W' => (e = .returned (.bool true) ∧ J (pre ++ [x]) W' ∧ Keep (fun k => k = Bx ∨ F k) W1 W') ∨ (e = .returned (.bool false) ∧ Jx (pre ++ [x]) W')) := hY
  have H0 : Hid (J [] W ∧ (∀ s X Y, J s X → X.grownBy Y none → J s Y)) := ⟨h0, hJg⟩
  have cB := bB.cell
  obtain ⟨_, _, _, _, _, c5, _⟩ := hE.cells
  have hsm := hE.small
  obtain ⟨N, hN⟩ : ∃ N, N = g.ps.length := ⟨_, rfl⟩
  have HN : Hid (N = g.ps.length) := hN
  rw [← hN] at c5 hsm
  clear hN hY h0 hJg hJxg h hW hE bB hB
  refine callsIn_of_wp Tryz.func66 rfl trivial ?_ rfl
  simp only [Tryz.ntmps66, List.size_toArray, List.length_cons, List.length_nil, Nat.reduceAdd, Nat.reduceSub, Array.replicate_succ, Array.replicate_zero, List.push_toArray, List.append_toArray, List.nil_append, List.cons_append]
  gi_wp2
  gi_loopw [12] (fun i wr => ∃ (k : Nat), k ≤ N ∧ i = .int .i64 (k : Int) ∧ Hid (J (g.ps.take k) wr ∧ Keep (fun k => k = Bx ∨ F k) W wr)) (fun i _ => N - (intOf i).toNat)
  case atStart => exact ⟨0, Nat.zero_le _, rfl, by rw [List.take_zero]; exact H0.out.1, Keep.refl _ _⟩
  case round =>
    obtain ⟨k, hk, rfl, H⟩ := hrel
    by_cases hlt : k < N
    · obtain ⟨⟨x, y⟩, hx⟩ : ∃ x, g.ps[k]? = some x := ⟨_, List.getElem?_eq_getElem (by rw [← HN.out]; exact hlt)⟩
      have hM := HE.out.1.kept H.out.2.1 (fun k hk => H.out.2.2 k (.inr hk))
      obtain ⟨b1, o1, rfl, hc1⟩ := hM.prs.prs.2 (by rw [← HN.out]; omega)
      obtain ⟨q1, q2⟩ := hc1 k (x, y) hx
      have i5 : (k : Int) < (N : Int) := by omega
      have HT : Hid (g.ps.take k ++ [(x, y)] = g.ps.take (k + 1)) := (by rw [List.take_add_one, hx]; rfl : g.ps.take k ++ [(x, y)] = g.ps.take (k + 1))
      have hga : wr.grownBy (wr.alloc (.cells #[.int .u64 (x : Int), .int .u64 (y : Int)] 39)) none := World.grownBy_alloc wr _ none
      have hY1 := HY.out (g.ps.take k) (x, y) _ (H0.out.2 _ _ _ H.out.1 hga) (by rw [List.length_take, Nat.min_eq_left (by rw [← HN.out]; exact hk)]; exact hx)
      have HK : Hid (Keep (fun k => k = Bx ∨ F k) W (wr.alloc (.cells #[.int .u64 (x : Int), .int .u64 (y : Int)] 39))) := H.out.2.trans ⟨hga.size, fun j hj => hga.block j (by
        have h1 := H.out.2.1
        rcases hj with rfl | hj
        · exact Nat.lt_of_lt_of_le HE.out.2.lt h1
        · exact Nat.lt_of_lt_of_le (HE.out.1.lt j hj) h1) (by simp)⟩
      clear hx hga hM hc1
      obtain ⟨fn, tmps, assign, body, hy, hR⟩ := hY1
      simp only [prE] at hy q1 q2
      gi_wp2_with fail
      refine hR.mono ?_
      clear hR
      rintro e W3 (⟨rfl, hJ3, hk3⟩ | ⟨rfl, hJ3⟩)
      · have HF : Hid (J (g.ps.take (k + 1)) W3 ∧ Keep (fun k => k = Bx ∨ F k) W W3) := ⟨by rw [← HT.out]; exact hJ3, HK.out.trans hk3⟩
        clear hJ3 hk3 hy
        gi_wp2
        go_roundw
        case rel => exact ⟨k + 1, by omega, by go_num, HF⟩
        case measure => simp [intOf]; omega
      · have HF : Hid (Jx (g.ps.take k ++ [(x, y)]) W3) := hJ3
        clear hJ3 hy
        gi_wp2
        refine bodyPost_ret (results_none rfl _ _ _) rfl ?_
        exact ⟨⟨_, rfl⟩, .inr ⟨_, HF.out⟩⟩
    · obtain rfl : k = N := by omega
      have HJ : Hid (J g.ps wr) := (by have := H.out.1; rwa [List.take_of_length_le (by rw [← HN.out]; exact Nat.le_refl _)] at this : J g.ps wr)
      have i5 : ¬ (k : Int) < (k : Int) := by omega
      gi_wp2
      go_end0
      exact ⟨⟨_, rfl⟩, .inl HJ.out⟩
end Go.Proofs.YtdjodigimhgklaaGreatDoor

/- The memo's Keys: the keys of all journals of a disk. -/
namespace Go.Proofs.YtdjodigimhgklaaGreatDoor
open Go.RowKit Go.Shelf Go.Maps

attribute [local go_sem] Oper.semAt_some

/-- the keys of a disk's memos -/
def keysL : List (List UInt8) → List Nat
  | [] => []
  | x :: r => if (whoP x).1 ≠ 0 ∧ (whoP x).2 = 0 then (whoP x).1 :: keysL r else keysL r
theorem keysL_app : ∀ a b, keysL (a ++ b) = keysL a ++ keysL b
  | [], b => rfl
  | x :: r, b => by
    simp only [List.cons_append, keysL, keysL_app r b]
    split <;> rfl
/-- what Keys answers -/
def KeysA (w : World) (S : DG) (e : Ending) (w' : World) : Prop :=
  ∃ ns ad c, S.Lists ns ∧ e = .returned (.slice ad (keysL ns).length c) ∧ w'.ownsRow w.heap.size 23 1 (.slice ad (keysL ns).length c) (keysL ns).length ((keysL ns).map idV) ∧ Below w.heap.size w w'

set_option maxRecDepth 100000 in
set_option maxHeartbeats 4000000 in
theorem ykeys_any (w : World) (d : Nat) (S : DG) (G : Nat → Prop) (hd : IsDisk w d S G) (hnm : ∀ x, (S.f x).isSome = true → x.length ≤ 32) (hn : S.n ≤ 1000000) :
    Calls Tryz.prog 18 #[.pointer (some ⟨d, 0, none⟩)] w (KeysA w S) := by
  have hns := names_any d S G w hd hn
  clear hd
  go_enter Tryz.func18, Tryz.ntmps18
  go_wp2_with (go_at_call 26; refine hns.mono ?_; clear hns; rintro e w1 ⟨ns, na, nc, rfl, hLs, hown, hB1⟩)
  obtain ⟨ad0, c0', e0, _, _, hcell⟩ := ownsRow_strs hown
  cases e0
  have H1 : Hid (S.Lists ns ∧ (∀ i x, ns[i]? = some x → ∃ b, na = some ⟨b, 0, none⟩ ∧ b < w1.heap.size ∧ w1.cell? ⟨b, i, none⟩ = some (encStr x)) ∧ Below w.heap.size w w1) := ⟨hLs, fun i x hx => by
    obtain ⟨b, h1, _, h3, h4⟩ := hcell i (encStr x) (by rw [List.getElem?_map, hx]; rfl)
    exact ⟨b, h1, h3, h4⟩, hB1⟩
  have hlen : ns.length ≤ 1000000 := by rw [hLs.len]; exact hn
  clear hLs hown hB1 hcell
  obtain ⟨N, hN⟩ : ∃ N, N = ns.length := ⟨_, rfl⟩
  have HN : Hid (N = ns.length) := hN
  rw [← hN]
  rw [← hN] at hlen
  clear hN
  obtain ⟨i0, hi, hz0, hz1, hz2⟩ := info_parts infoIdV
  go_wp2_with fail
  go_loopw [3, 11] (fun v i wr => ∃ (k q : Nat) (la : Option Addr) (lc : Nat), k ≤ N ∧ q ≤ k ∧ i = .int .i64 (k : Int) ∧ v = .slice la q lc ∧ Hid (q = (keysL (ns.take k)).length ∧ wr.ownsRow w1.heap.size 23 1 (.slice la q lc) q ((keysL (ns.take k)).map idV) ∧ Below w1.heap.size w1 wr)) (fun _ i _ => N - (intOf i).toNat)
  case atStart => exact ⟨0, 0, none, 0, Nat.zero_le _, Nat.le_refl _, rfl, rfl, rfl, World.ownsRow_nil _ _ _ _, Below.refl _ _⟩
  case round =>
    obtain ⟨k, q, la, lc, hk, hqk, rfl, rfl, H⟩ := hrel
    by_cases hlt : k < N
    · obtain ⟨x, hx⟩ : ∃ x, ns[k]? = some x := ⟨_, List.getElem?_eq_getElem (by rw [← HN.out]; exact hlt)⟩
      obtain ⟨b1, rfl, hb1, t0⟩ := H1.out.2.1 k x hx
      have t1 := (H.out.2.2.cell (p := ⟨b1, k, none⟩) hb1).trans t0
      obtain ⟨s, hs1, hs2⟩ := encStr_list x
      rw [hs1] at t1
      have hx32 := hnm x (H1.out.1.mem x (List.mem_of_getElem? hx)).1
      have hwho := whose_any s wr (by have : s.data.toList.length = s.size := by simp
                                      rw [hs2] at this; omega)
      rw [hs2] at hwho
      obtain ⟨K, hK⟩ : ∃ K, K = (whoP x).1 := ⟨_, rfl⟩
      obtain ⟨R, hR⟩ : ∃ R, R = (whoP x).2 := ⟨_, rfl⟩
      rw [← hK, ← hR] at hwho
      have i1 : (k : Int) < (N : Int) := by omega
      have i2 : ¬ N ≤ k := by omega
      have HE : Hid (ns.take (k + 1) = ns.take k ++ [x] ∧ (K ≠ 0 ∧ R = 0 → keysL [x] = [K]) ∧ (¬ (K ≠ 0 ∧ R = 0) → keysL [x] = [])) := by
        refine ⟨by rw [List.take_add_one, hx]; rfl, fun h => ?_, fun h => ?_⟩
        · rw [keysL, ← hK, ← hR, if_pos h]; rfl
        · rw [keysL, ← hK, ← hR, if_neg h]; rfl
      have hsame : ¬ (K ≠ 0 ∧ R = 0) → q = (keysL (ns.take (k + 1))).length ∧ wr.ownsRow w1.heap.size 23 1 (.slice la q lc) q ((keysL (ns.take (k + 1))).map idV) ∧ Below w1.heap.size w1 wr := fun h => by
        rw [HE.out.1, keysL_app, HE.out.2.2 h, List.append_nil]
        exact H.out
      clear hx t0 hs1 hs2 hx32 hK hR hb1
      by_cases hk1 : K = 0
      · have a1 : ((K : Int) != 0) = false := by simp [hk1]
        have HZ : Hid (q = (keysL (ns.take (k + 1))).length ∧ wr.ownsRow w1.heap.size 23 1 (.slice la q lc) q ((keysL (ns.take (k + 1))).map idV) ∧ Below w1.heap.size w1 wr) := hsame (fun h => h.1 hk1)
        clear HE H hsame hk1
        go_wp2_with (go_at_call 52; refine hwho.mono ?_; clear hwho; rintro e w2 ⟨rfl, hw2⟩; subst hw2)
        go_roundw
        case rel => exact ⟨k + 1, q, la, lc, by omega, by omega, by go_num, rfl, HZ.out⟩
        case measure => simp [intOf]; omega
      · have a1 : ((K : Int) != 0) = true := by simpa using hk1
        by_cases hr1 : R = 0
        · have a2 : ((R : Int) == 0) = true := by simp [hr1]
          have HG2 : Hid (keysL [x] = [K]) := HE.out.2.1 ⟨hk1, hr1⟩
          have hrow' := H.out.2.1.alloc (.cells #[idV K] 23)
          have hsz := H.out.2.2.size
          clear hsame hr1
          go_wp2_with first
            | (at_builtin; refine wpList_append_own_at _ rfl _ _ 47 rfl w1.heap.size 23 i0 _ 1 8 Tryz.underlying47 hi hz0 hz1 hz2 rfl (by decide) _ q _ rfl hrow' ⟨_, 0, none⟩ 1 1 [idV K] rfl (by exact rfl) (by simpa using cell_one_new _ _ _) (by simp [Value.oneCell']) (by unfold maxLen; omega) (by omega) (by simp; omega) ?_; intro v6 w6 hown6 hgr6 _ _)
            | (go_at_call 52; refine hwho.mono ?_; clear hwho; rintro e w2 ⟨rfl, hw2⟩; subst hw2)
          obtain ⟨la6, lc6, rfl, _⟩ := irow_shape hown6
          have HZ : Hid (q + 1 = (keysL (ns.take (k + 1))).length ∧ w6.ownsRow w1.heap.size 23 1 (.slice la6 (q + 1) lc6) (q + 1) ((keysL (ns.take (k + 1))).map idV) ∧ Below w1.heap.size w1 w6) := by
            rw [HE.out.1, keysL_app, HG2.out]
            refine ⟨by rw [List.length_append, ← H.out.1]; rfl, by rw [List.map_append]; exact hown6, (H.out.2.2.alloc hsz _).grown hgr6 (by simp; omega) (fun z hz => (irow_block hrow' z hz).1)⟩
          clear HE H hown6 hgr6 HG2 hrow'
          go_roundw
          case rel => exact ⟨k + 1, q + 1, la6, lc6, by omega, by omega, by go_num, rfl, HZ.out⟩
          case measure => simp [intOf]; omega
        · have a2 : ((R : Int) == 0) = false := by simpa using hr1
          have HZ : Hid (q = (keysL (ns.take (k + 1))).length ∧ wr.ownsRow w1.heap.size 23 1 (.slice la q lc) q ((keysL (ns.take (k + 1))).map idV) ∧ Below w1.heap.size w1 wr) := hsame (fun h => hr1 h.2)
          clear HE H hsame
          go_wp2_with (go_at_call 52; refine hwho.mono ?_; clear hwho; rintro e w2 ⟨rfl, hw2⟩; subst hw2)
          go_roundw
          case rel => exact ⟨k + 1, q, la, lc, by omega, by omega, by go_num, rfl, HZ.out⟩
          case measure => simp [intOf]; omega
    · obtain rfl : k = N := by omega
      have HZ : Hid (KeysA w S (.returned (.slice la q lc)) wr) := by
        have e : ns.take k = ns := List.take_of_length_le (by rw [← HN.out]; exact Nat.le_refl _)
        have h1 := H.out
        rw [e] at h1
        obtain ⟨h1, h2, h3⟩ := h1
        refine ⟨ns, la, lc, H1.out.1, by rw [← h1], ?_, H1.out.2.2.trans (h3.mono H1.out.2.2.size)⟩
        rw [← h1]
        exact ⟨h2.1, h2.2.imp id fun ⟨z, cap, cur, a1, a2, a3⟩ => ⟨z, cap, cur, a1, Nat.le_trans H1.out.2.2.size a2, a3⟩⟩
      have i1 : ¬ (k : Int) < (k : Int) := by omega
      clear H
      go_wp2
      go_ret
      exact HZ.out
end Go.Proofs.YtdjodigimhgklaaGreatDoor
