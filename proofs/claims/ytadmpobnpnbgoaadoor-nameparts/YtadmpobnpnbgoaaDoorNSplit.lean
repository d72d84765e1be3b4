/- The walk of Split. -/
import Derived.Test.YtadmpobnpnbgoaaDoorNMake
import Derived.Test.YtadmpobnpnbgoaaDoorNCommon
import Derived.Maps.AppendAt
import Derived.Maps.OwnIn
namespace Go.Proofs.YtadmpobnpnbgoaaDoor
open Go.RowKit Go.Shelf

attribute [local go_sem] Oper.semAt_some

theorem Tryd.info9 : (Tryd.prog.info? 9).map (fun i => (i.zero, i.size, i.bytes)) = some (some (.string ⟨#[]⟩), 1, 16) := by kernel_rfl

theorem below_grown {n0 : Nat} {w W W' : World} {row : Option Nat} (h : Below n0 w W) (hg : W.grownBy W' row) (hn : n0 ≤ w.heap.size) (hr : ∀ r, row = some r → n0 ≤ r) : Below n0 w W' :=
  ⟨hg.os.trans h.os, hg.tape.trans h.tape, hg.output.trans h.output, Nat.le_trans h.size hg.size, fun k hk => (hg.block k (by have := h.size; omega) (fun e => by have := hr k e.symm; omega)).trans (h.block k hk)⟩

/-- a row of texts, as a slice -/
theorem row_strs {w : World} {base n : Nat} {v : Value} {l : List ByteArray} (h : w.ownsRow base 9 1 v n (l.map Value.string)) : ∃ a c, v = .slice a n c ∧ n ≤ c ∧ Strs w a n l := by
  have hl : l.length = n := by have := h.1; simpa using this
  rcases h.2 with ⟨rfl, rfl⟩ | ⟨g, cap, cur, rfl, _, hg, hc, _, _, ht⟩
  · exact ⟨none, 0, rfl, Nat.le_refl _, hl, fun h0 => absurd h0 (Nat.lt_irrefl _)⟩
  · refine ⟨_, _, rfl, hc, hl, fun _ => ⟨g, 0, rfl, fun j x hx => ?_⟩⟩
    have hj : j < n := by rw [← hl]; exact (List.getElem?_eq_some_iff.1 hx).1
    have e : (cur.toList.take (n * 1))[j]? = some (.string x) := by rw [ht, List.getElem?_map, hx]; rfl
    rw [List.getElem?_take_of_lt (by omega)] at e
    simp only [World.cell?, hg]
    show cur[0 + j]? = _
    rw [Nat.zero_add, ← Array.getElem?_toList]; exact e

structure SplitI {s : ByteArray} (w : World) (c p B0 : Nat) (pre : List (Pc s)) (v : Value) (W : World) : Prop where
  fc : Boxed W c 29 v
  row : W.ownsRow B0 9 1 v pre.length (pre.map fun x => .string x.1.2)
  fp : Boxed W p 9 (.string s)
  fw : Below w.heap.size w W
def SplitJ {s : ByteArray} (w : World) (c p B0 : Nat) (pre : List (Pc s)) (W : World) : Prop := ∃ v, SplitI w c p B0 pre v W
theorem ownBlock_ge {W : World} {base n : Nat} {e : TypeId} {v : Value} {xs : List Value} (h : W.ownsRow base e 1 v n xs) : ∀ r, v.ownBlock = some r → base ≤ r ∧ r < W.heap.size ∧ ∃ cur, W.heap[r]? = some (.cells cur e (0, 0)) := by
  intro r hr
  rcases h.2 with ⟨rfl, _⟩ | ⟨g, cap, cur, rfl, hb, hg, _⟩
  · cases hr
  · cases hr
    exact ⟨hb, (Array.getElem?_eq_some_iff.1 hg).1, cur, hg⟩
theorem splitJ_own {s : ByteArray} (w : World) (c p B0 b0 : Nat) (h0 : w.heap.size ≤ b0) : OwnFrom b0 (SplitJ (s := s) w c p B0) := fun _ X Y row hs hg hr => by
  obtain ⟨v, hs⟩ := hs
  refine ⟨v, boxed_keep hs.fc hg hr, hs.row.kept hg ?_, boxed_keep hs.fp hg hr, below_keep hs.fw (Nat.le_refl _) h0 hg hr⟩
  by_cases hv : v.ownBlock = none
  · exact .inl hv
  · right
    intro e
    obtain ⟨r, hr'⟩ := Option.ne_none_iff_exists'.1 hv
    obtain ⟨_, _, cur, hc⟩ := ownBlock_ge hs.row r hr'
    obtain ⟨_, o, ho, hn⟩ := hr r (e.symm.trans hr')
    rw [hc] at ho; cases ho; cases hn

theorem SplitI.step {s : ByteArray} {w W w1 : World} {c p B0 : Nat} {pre : List (Pc s)} {v v' : Value} {o : Obj} {b0 : Nat} (h : SplitI w c p B0 pre v W) (hc : c < B0) (hp : p < B0) (hcp : p ≠ c) (hw : w.heap.size ≤ c) (x : Pc s)
    (hown : w1.ownsRow B0 9 1 v' (pre.length + 1) (pre.map (fun x => .string x.1.2) ++ [.string x.1.2])) (hg : (W.alloc o).grownBy w1 v.ownBlock) :
    KeepsFrom b0 W (w1.setCell ⟨c, 0, none⟩ v') ∧ KpB p W (w1.setCell ⟨c, 0, none⟩ v') ∧ SplitJ w c p B0 (pre ++ [x]) (w1.setCell ⟨c, 0, none⟩ v') := by
  have hne : ∀ k, k < B0 → some k ≠ v.ownBlock := fun k hk e => by have := (ownBlock_ge h.row k e.symm).1; omega
  have hne' : ∀ k, k < B0 → some k ≠ v'.ownBlock := fun k hk e => by have := (ownBlock_ge hown k e.symm).1; omega
  have hc1 : Boxed w1 c 29 v := (h.fc.alloc o).kept hg (hne c hc)
  have hp1 : Boxed w1 p 9 (.string s) := (h.fp.alloc o).kept hg (hne p hp)
  have hp2 : Boxed (w1.setCell ⟨c, 0, none⟩ v') p 9 (.string s) := hp1.other hcp _
  have hK : KeepsOthers W (w1.setCell ⟨c, 0, none⟩ v') := ((KeepsOthers.alloc W o).trans (KeepsOthers.of_grownBy hg fun j ob ej hj => by
    obtain ⟨_, hlt, cur, hcur⟩ := ownBlock_ge h.row j ej
    have : (W.alloc o).heap[j]? = W.heap[j]? := Below.heap_alloc W o j hlt
    rw [this, hcur] at hj; cases hj; rfl)).trans (KeepsOthers.setCell _ _ _)
  refine ⟨hK.from _, ⟨hK.walks, hp2.trans h.fp.symm⟩, v', hc1.set v', ?_, hp2, ?_⟩
  · have := hown.kept (grownBy_setCell' w1 c v') (.inr (fun e => hne' c hc e.symm))
    rw [List.length_append, List.map_append]
    exact this
  · exact (below_grown (h.fw.alloc h.fw.size o) hg (Nat.le_refl _) (fun r hr => by have := (ownBlock_ge h.row r hr).1; omega)).setCell (p := ⟨c, 0, none⟩) hw _

theorem SplitI.box {s : ByteArray} {w W w1 : World} {c p B0 : Nat} {pre : List (Pc s)} {v : Value} {o : Obj} (h : SplitI w c p B0 pre v W) (hg : (W.alloc o).grownBy w1 v.ownBlock) (hc : c < B0) : Boxed w1 c 29 v :=
  (h.fc.alloc o).kept hg (fun e => by have := (ownBlock_ge h.row c e.symm).1; omega)
theorem row_base {W : World} {base base' n : Nat} {e : TypeId} {v : Value} {xs : List Value} (h : W.ownsRow base e 1 v n xs) (hb : base' ≤ base) : W.ownsRow base' e 1 v n xs := by
  refine ⟨h.1, ?_⟩
  rcases h.2 with h | ⟨g, cap, cur, rfl, hg, rest⟩
  · exact .inl h
  · exact .inr ⟨g, cap, cur, rfl, Nat.le_trans hb hg, rest⟩

set_option maxRecDepth 100000 in
set_option maxHeartbeats 4000000 in
theorem Split_any (s : ByteArray) (w : World) (hs' : s.size ≤ 200000) :
    Calls Tryd.prog 15 #[.string s] w fun e w' => (∃ v, e = .returned (.tuple #[v, .int .i64 ((pathSpot (bs s)).1 : Int)]) ∧ w'.ownsRow w.heap.size 9 1 v (if isP (bs s) then (parts (bs s)).map mk else []).length ((if isP (bs s) then (parts (bs s)).map mk else []).map Value.string)) ∧ Below w.heap.size w w' := by
  have hs : s.size ≤ maxLen := by unfold maxLen; omega
  have hp := path_any s w hs
  have hpc := parts_count (bs s)
  rw [bs_len, ← pcs_len] at hpc
  obtain ⟨e1, h1⟩ : ∃ e1, e1 = (pathSpot (bs s)).1 := ⟨_, rfl⟩
  obtain ⟨e2, h2⟩ : ∃ e2, e2 = (pathSpot (bs s)).2 := ⟨_, rfl⟩
  simp only [spotV] at hp
  rw [← h1, ← h2] at hp
  rw [← h1]
  have H1 : Hid (e1 = (pathSpot (bs s)).1) := h1
  clear h1 h2
  refine (callsIn_wide (n := 5)).1 ?_
  refine callsIn_of_wp_marks Tryd.func15 rfl trivial ?_ rfl
  simp only [Tryd.ntmps15, List.size_toArray, List.length_cons, List.length_nil, Nat.reduceAdd, Nat.reduceSub, Array.replicate_succ, Array.replicate_zero, List.push_toArray, List.append_toArray, List.nil_append, List.cons_append]
  refine wpIn_wide.2 ?_
  by_cases h0 : e1 = 0
  · subst h0
    have hI : isP (bs s) = true := by unfold isP; rw [← H1.out]; rfl
    obtain ⟨R, hR⟩ : ∃ R, R = (if isP (bs s) then (parts (bs s)).map mk else []) := ⟨_, rfl⟩
    rw [← hR]
    rw [hI, if_pos rfl] at hR
    have HE : Hid (R = (parts (bs s)).map mk) := hR
    clear hI H1 hR
    go_wp2_with first
      | (go_at_call 12; refine hp.mono ?_; clear hp; rintro e w1 ⟨rfl, hB1⟩; obtain ⟨q0, q1⟩ := box2_at w1 (.int .i64 0) (.int .i64 (e2 : Int)))
      | (go_at_call 35; refine (pieces_any s _).mono ?_; rintro e w' ⟨rfl, rfl⟩)
    clear q0 q1
    obtain ⟨w4, hw4⟩ : ∃ w4, w4 = ((w1.alloc (.cells #[.int .i64 0, .int .i64 (e2 : Int)] 26)).alloc (.cells #[.slice none 0 0] 29)).alloc (.cells #[.string s] 9) := ⟨_, rfl⟩
    have hm1 : w.heap.size ≤ w1.heap.size := hB1.size
    have hs4 : w4.heap.size = w1.heap.size + 3 := by rw [hw4]; simp
    have hB4 : Below w.heap.size w w4 := by
      rw [hw4]; exact ((hB1.alloc hB1.size _).alloc (by simp; omega) _).alloc (by simp; omega) _
    have bC : Boxed w4 (w1.heap.size + 1) 29 (.slice none 0 0) := by
      have := (Boxed.new (w1.alloc (.cells #[.int .i64 0, .int .i64 (e2 : Int)] 26)) 29 (.slice none 0 0)).alloc (.cells #[.string s] 9)
      rw [World.size_alloc] at this
      rw [hw4]; exact this
    have bP : Boxed w4 (w1.heap.size + 1 + 1) 9 (.string s) := by
      have := Boxed.new ((w1.alloc (.cells #[.int .i64 0, .int .i64 (e2 : Int)] 26)).alloc (.cells #[.slice none 0 0] 29)) 9 (.string s)
      rw [World.size_alloc, World.size_alloc] at this
      rw [hw4]; exact this
    rw [← hw4]
    clear hw4 hB1
    obtain ⟨N, hN⟩ : ∃ N, N = w1.heap.size := ⟨_, rfl⟩
    rw [← hN] at hm1 hs4 bC bP ⊢
    clear hN w1
    obtain ⟨i0, hi, hz0, hz1, hz2⟩ := info_parts Tryd.info9
    refine (wpIn_wide (n := 5)).1 ?_
    refine wpIn_rangeFunc_ownG (w := w4) (w0 := w4) rfl (by omega) (gf := 52) (lb := #[.pointer (some ⟨N + 1 + 1, 0, none⟩)]) rfl trivial (enters_of Tryd.func52 (by kernel_rfl) rfl)
      (pieces_stops s hs w4 (N + 1 + 1) bP 4 (by omega)) KpB.t (fun W l o o' hl ho _ hw => ⟨KeepsWalks.putObj _ ho hw, World.putObj_heap_other (by omega)⟩) (Below.refl _ _) (fun _ => rfl)
      (SplitJ w (N + 1) (N + 1 + 1) (N + 3)) (fun _ _ _ => False) (splitJ_own w _ _ _ _ (by omega)) (fun _ _ _ _ _ h _ _ => h)
      ⟨_, bC, World.ownsRow_nil _ _ _ _, bP, hB4⟩ ?act ?assign ?body ?done ?stop
    case assign =>
      intro l x W K hK
      gi_wp2
      exact hK
    case body =>
      rintro l pre x W ⟨v, hI⟩ hlen
      have cC := hI.fc.cell
      have hrow := hI.row
      have H : Hid (SplitI w (N + 1) (N + 1 + 1) (N + 3) pre v W) := hI
      have hx := x.2
      have hWs : N + 3 ≤ W.heap.size := by have := hI.fp.lt; omega
      clear bC bP hB4
      gi_wp2_with (gi_at_builtin; refine wpListIn_append_own _ rfl _ _ 29 rfl (N + 3) 9 i0 (.string ⟨#[]⟩) 1 16 Tryd.underlying29 hi hz0 hz1 hz2 rfl (by decide) _ _ _ rfl (hrow.alloc _) ⟨W.heap.size, 0, none⟩ 1 1 [.string x.1.2] rfl rfl (cell_one_new _ _ _) (by simp [Value.oneCell']) (by unfold maxLen; omega) (by omega) (by simp; omega) ?_; intro v' w1 hown' hgrow _; obtain ⟨g', cap', rfl⟩ := ownsRow_succ hown'; have hst := H.out.step (b0 := w4.heap.size) (by omega) (by omega) (by omega) (by omega) x hown' hgrow; have bx := H.out.box hgrow (by omega); have cx := bx.cell; have fx := bx.frozen; have HST : Hid _ := hst; clear hst)
      exact HST.out
    case done =>
      rintro D xs W hD hS ⟨v, hI⟩ hK
      have cC := hI.fc.cell
      have hnm : (xs.map fun x => Value.string x.1.2) = R.map Value.string := by
        rw [HE.out, List.map_map]
        have h1 : parts (bs s) = xs.map fun x => bs x.1.2 := by
          have h2 : (pcs (bs s)).map Prod.snd = parts (bs s) := by
            have : ∀ (ns : List (List UInt8)) b, (offs b ns).map Prod.snd = ns := by
              intro ns
              induction ns with
              | nil => intro b; rfl
              | cons n r ih => intro b; simp [offs, ih]
            exact this _ 0
          rw [← h2, ← hS, List.map_map]; rfl
        rw [h1, List.map_map]
        refine List.map_congr_left fun x _ => ?_
        show Value.string x.1.2 = Value.string (mk (bs x.1.2))
        rw [mk_bs]
      have hln : xs.length = R.length := by have := congrArg List.length hnm; simpa using this
      have hrow := row_base hI.row (show w.heap.size ≤ N + 3 by omega)
      rw [hnm, hln] at hrow
      have H : Hid (Below w.heap.size w W ∧ W.heap[D]? = some (.deferred (some [])) ∧ w4.heap.size ≤ D ∧ W.ownsRow w.heap.size 9 1 v R.length (R.map Value.string)) := ⟨hI.fw, hK, hD, hrow⟩
      clear hI hS hK hD bC bP hB4 hnm hln hrow
      gi_wp2
      go_wp2_with fail
      obtain ⟨hb, hK, hD, hrow⟩ := H.out
      refine ⟨by simp, .inl ⟨_, _, rfl, run_takeDeferred hK, ?_⟩⟩
      refine ⟨.tuple #[v, .int .i64 0], by simp [results, Tryd.results15, go_sem], ⟨v, rfl, ownsRow_putObj hrow _ hK rfl⟩, hb.trans (belowK_b (w := w) (Nat.le_refl _) _ D _ _ (by omega) hK rfl rfl)⟩
    case stop =>
      rintro D c pre W hD hS hX hK
      exact hX.elim
  · have j0 : ¬ (e1 : Int) = 0 := by omega
    have hI : isP (bs s) = false := by unfold isP; rw [← H1.out]; simpa using h0
    rw [hI]
    simp only [Bool.false_eq_true, if_false, List.length_nil, List.map_nil]
    clear H1 hI
    go_wp2_with (go_at_call 12; refine hp.mono ?_; clear hp; rintro e w1 ⟨rfl, hB1⟩; obtain ⟨q0, q1⟩ := box2_at w1 (.int .i64 (e1 : Int)) (.int .i64 (e2 : Int)))
    go_quiet (fail)
    go_wp2_with fail
    refine ret_m (v := .tuple #[.slice none 0 0, .int .i64 (e1 : Int)]) (by simp [results, Tryd.results15, go_sem]) ⟨⟨_, rfl, World.ownsRow_nil _ _ _ _⟩, ?_⟩
    exact below_drewN (hB1.alloc hB1.size _) _
end Go.Proofs.YtadmpobnpnbgoaaDoor
