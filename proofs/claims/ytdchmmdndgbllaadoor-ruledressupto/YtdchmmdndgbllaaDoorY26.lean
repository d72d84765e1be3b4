import Derived.BigQuiet
import Derived.Test.YtdchmmdndgbllaaDoorY25
import Derived.Test.YtdchmmdndgbllaaDoorY15
import Derived.Test.YtdchmmdndgbllaaDoorY22
import Derived.Maps.OwnIn
import Derived.Maps.AppendAt
/- The walks of wordsOf, Line. -/
namespace Go.Proofs.YtdchmmdndgbllaaDoor
open Go.RowKit Go.Shelf

attribute [local go_sem] Oper.semAt_some

theorem wsR_one (k : Int) (f t : List UInt8) (h : k = 1) : wsR (k, f, t) = [[107, 101, 101, 112], wdP f] := by unfold wsR; rw [if_pos h]
theorem wsR_two (k : Int) (f t : List UInt8) (h1 : ¬ k = 1) (h : k = 2) : wsR (k, f, t) = [[100, 114, 111, 112], wdP f] := by unfold wsR; rw [if_neg h1, if_pos h]
theorem wsR_three (k : Int) (f t : List UInt8) (h1 : ¬ k = 1) (h2 : ¬ k = 2) : wsR (k, f, t) = [[109, 111, 118, 101], wdP f, wdP t] := by unfold wsR; rw [if_neg h1, if_neg h2]

set_option maxRecDepth 100000 in
set_option maxHeartbeats 4000000 in
theorem wordsOf_any (k : Int) (f t : ByteArray) (w : World) :
    Calls Tryd.prog 21 #[rv k f t] w fun e w' => ∃ a c, e = .returned (.slice a (wsR (k, bs f, bs t)).length c) ∧ Strs w' a (wsR (k, bs f, bs t)).length ((wsR (k, bs f, bs t)).map mk) ∧ Below w.heap.size w w' := by
  have hw := wordOf_any
  have hB0 : ∀ n, Below w.heap.size w ((w.alloc (.cells #[.int .i64 k, .string f, .string t] 26)).drewN n) := fun n => ((Below.refl _ w).alloc (Nat.le_refl _) _).trans ⟨rfl, rfl, rfl, Nat.le_refl _, fun _ _ => rfl⟩
  by_cases h1 : k = 1
  · rw [wsR_one k _ _ h1]
    subst h1
    go_enter Tryd.func21, Tryd.ntmps21
    go_wp2
    go_quiet ((go_at_call 41; exact Calls.quiet_of_same (hw _ _)))
    go_wp2
    go_ret
    have hz : ((w.alloc (.cells #[.int .i64 1, .string f, .string t] 26)).drewN nq).heap.size = w.heap.size + 1 := by simp
    have hs := strs_new ((w.alloc (.cells #[.int .i64 1, .string f, .string t] 26)).drewN nq) [mk [107, 101, 101, 112], mk (wdP (bs f))] 9 2 rfl
    rw [hz] at hs
    exact ⟨_, _, rfl, hs, (hB0 nq).alloc (by rw [hz]; omega) _⟩
  by_cases h2 : k = 2
  · rw [wsR_two k _ _ h1 h2]
    subst h2
    clear h1
    go_enter Tryd.func21, Tryd.ntmps21
    go_wp2
    go_quiet ((go_at_call 41; exact Calls.quiet_of_same (hw _ _)))
    go_wp2
    go_ret
    have hz : ((w.alloc (.cells #[.int .i64 2, .string f, .string t] 26)).drewN nq).heap.size = w.heap.size + 1 := by simp
    have hs := strs_new ((w.alloc (.cells #[.int .i64 2, .string f, .string t] 26)).drewN nq) [mk [100, 114, 111, 112], mk (wdP (bs f))] 9 2 rfl
    rw [hz] at hs
    exact ⟨_, _, rfl, hs, (hB0 nq).alloc (by rw [hz]; omega) _⟩
  · rw [wsR_three k _ _ h1 h2]
    go_enter Tryd.func21, Tryd.ntmps21
    go_wp2
    go_quiet ((go_at_call 41; exact Calls.quiet_of_same (hw _ _)))
    go_wp2
    go_ret
    have hz : ((w.alloc (.cells #[.int .i64 k, .string f, .string t] 26)).drewN nq).heap.size = w.heap.size + 1 := by simp
    have hs := strs_new ((w.alloc (.cells #[.int .i64 k, .string f, .string t] 26)).drewN nq) [mk [109, 111, 118, 101], mk (wdP (bs f)), mk (wdP (bs t))] 9 3 rfl
    rw [hz] at hs
    exact ⟨_, _, rfl, hs, (hB0 nq).alloc (by rw [hz]; omega) _⟩

theorem map_mk_bs : ∀ l : List (List UInt8), (l.map mk).map bs = l
  | [] => rfl
  | x :: r => by rw [List.map_cons, List.map_cons, bs_mk, map_mk_bs r]
theorem lineL_take_len (ws : List (List UInt8)) (k : Nat) : (lineL (ws.take k)).length ≤ 4 * (ws.map List.length).sum + 3 * ws.length := by
  have h1 := lineL_len (ws.take k)
  have h2 : ((ws.take k).map List.length).sum ≤ (ws.map List.length).sum := by
    conv => rhs; rw [← List.take_append_drop k ws, List.map_append, List.sum_append]
    omega
  have h3 : (ws.take k).length ≤ ws.length := by rw [List.length_take]; omega
  omega
theorem wsR_small {r : Ru} (h : okR r = true) : (wsR r).length ≤ 3 ∧ ((wsR r).map List.length).sum ≤ 404 ∧ ∀ x ∈ wsR r, x.length ≤ 200 := by
  unfold okR at h
  simp only [Bool.and_eq_true] at h
  obtain ⟨⟨hf, ht⟩, _⟩ := h
  have h1 := wdP_len hf
  have h2 := wdP_len ht
  unfold wsR
  split
  · simp; omega
  · split
    · simp; omega
    · simp; omega

set_option maxRecDepth 100000 in
set_option maxHeartbeats 4000000 in
theorem uline_any (k : Int) (f t : ByteArray) (w : World) (hT : Tabs w) (hf : f.size ≤ maxLen) (ht : t.size ≤ maxLen) :
    Calls Tryd.prog 9 #[rv k f t] w fun e w' => e = .returned (.tuple #[.string (mk (if okR (k, bs f, bs t) = true then lineR (k, bs f, bs t) else [])), .int .i64 (chkE (k, bs f, bs t))]) ∧ Below w.heap.size w w' := by
  have hck := fun W => ucheck_any k f t W hf ht
  have hwo := fun W => wordsOf_any k f t W
  have b1 : BoxR (w.alloc (.cells #[.int .i64 k, .string f, .string t] 26)) w.heap.size k f t := BoxR.new w k f t
  have hB0 : Below w.heap.size w (w.alloc (.cells #[.int .i64 k, .string f, .string t] 26)) := (Below.refl _ w).alloc (Nat.le_refl _) _
  unfold lineR
  generalize hr : (k, bs f, bs t) = r at *
  by_cases ho : okR r = true
  · have he : chkE r = 0 := by unfold chkE; rw [if_pos ho]
    rw [if_pos ho, he]
    rw [he] at hck
    obtain ⟨s1, s2, s3⟩ := wsR_small ho
    have hbm : ((wsR r).map mk).map bs = wsR r := map_mk_bs _
    have hsum : ∀ j, (lineL ((((wsR r).map mk).take j).map bs)).length ≤ 100000000 := fun j => by
      rw [List.map_take, hbm]
      have := lineL_take_len (wsR r) j
      omega
    have hsz : ∀ x ∈ (wsR r).map mk, x.size ≤ 1048576 := fun x hx => by
      obtain ⟨y, hy, rfl⟩ := List.mem_map.1 hx
      have := s3 y hy
      rw [← bs_len, bs_mk]; omega
    have HL : Hid (∀ (W : World) (a : Option Addr) (c : Nat), Strs W a (wsR r).length ((wsR r).map mk) → Tabs W → Calls Tryd.prog 20 #[.slice a (wsR r).length c] W fun e w' => e = .returned (.string (mk (lineL (wsR r)))) ∧ Below W.heap.size W w') := fun W a c h1 h2 => by
      have := line_any W a (wsR r).length c ((wsR r).map mk) h1 h2 hsz (by omega) hsum
      rw [hbm] at this
      exact this
    clear hsum hsz hbm s1 s2 s3
    generalize lineL (wsR r) = L at *
    generalize (wsR r).map mk = M at *
    generalize (wsR r).length = n at *
    go_enter Tryd.func9, Tryd.ntmps9
    go_wp2_with first
      | (go_at_call 11; refine (hck _).mono ?_; clear hck; rintro e w2 ⟨rfl, hB2⟩; have hB2' : Below w.heap.size w w2 := hB0.trans (hB2.mono hB0.size); obtain ⟨q0, q1, q2⟩ := (b1.below hB2 (by simp)).cell; have hz2 := hB2'.size; clear b1 hB2 hB0)
      | (go_at_call 21; refine (hwo _).mono ?_; clear hwo; rintro e w3 ⟨a3, c3, rfl, hS3, hB3⟩; have HB3 : Hid (Below w.heap.size w w3) := hB2'.trans (hB3.mono hB2'.size); have HS : Hid (Strs w3 a3 n M) := hS3; clear hB2' hB3 hS3 q0 q1 q2)
      | (go_at_call 20; refine (HL.out _ _ _ HS.out (hT.below HB3.out)).mono ?_; clear HL; rintro e w4 ⟨rfl, hB4⟩)
    go_ret2
    exact ⟨rfl, HB3.out.trans (hB4.mono HB3.out.size)⟩
  · have he : chkE r = 2 := by unfold chkE; rw [if_neg ho]
    rw [if_neg ho, he]
    rw [he] at hck
    clear hwo ho he
    go_enter Tryd.func9, Tryd.ntmps9
    go_wp2_with (go_at_call 11; refine (hck _).mono ?_; clear hck; rintro e w2 ⟨rfl, hB2⟩; have hB2' : Below w.heap.size w w2 := hB0.trans (hB2.mono hB0.size))
    go_ret2
    exact ⟨rfl, hB2'⟩
end Go.Proofs.YtdchmmdndgbllaaDoor

/- Rules in a row of one's own. -/
namespace Go.Proofs.YtdchmmdndgbllaaDoor
open Go.RowKit Go.Shelf Go.Maps

attribute [local go_sem] Oper.semAt_some

theorem infoRule : (Tryd.prog.info? 26).map (fun i => (i.zero, i.size, i.bytes)) = some (some (.agg #[.int .i64 0, .string ⟨#[]⟩, .string ⟨#[]⟩]), 3, 40) := by kernel_rfl
def ruCells : List Ru → List Value
  | [] => []
  | x :: r => .int .i64 x.1 :: .string (mk x.2.1) :: .string (mk x.2.2) :: ruCells r
theorem ruCells_len : ∀ l : List Ru, (ruCells l).length = l.length * 3
  | [] => rfl
  | x :: r => by simp only [ruCells, List.length_cons, ruCells_len r]; omega
theorem ruCells_one : ∀ (l : List Ru), ∀ u ∈ ruCells l, u.oneCell' = true
  | [], u, h => by cases h
  | x :: r, u, h => by
    simp only [ruCells, List.mem_cons] at h
    rcases h with rfl | rfl | rfl | h
    · rfl
    · rfl
    · rfl
    · exact ruCells_one r u h
theorem ruCells_append : ∀ (l m : List Ru), ruCells (l ++ m) = ruCells l ++ ruCells m
  | [], m => rfl
  | x :: r, m => by simp [ruCells, ruCells_append r m]
theorem ruCells_get : ∀ (l : List Ru) (j : Nat) (x : Ru), l[j]? = some x → (ruCells l)[j * 3]? = some (.int .i64 x.1) ∧ (ruCells l)[j * 3 + 1]? = some (.string (mk x.2.1)) ∧ (ruCells l)[j * 3 + 2]? = some (.string (mk x.2.2))
  | [], j, x, h => by simp at h
  | y :: r, 0, x, h => by
    simp at h; subst h
    exact ⟨rfl, rfl, rfl⟩
  | y :: r, j + 1, x, h => by
    have ih := ruCells_get r j x (by simpa using h)
    rw [show (j + 1) * 3 = j * 3 + 3 by omega]
    exact ih
/-- a slice of rules -/
def Rus (w : World) (a : Option Addr) (n : Nat) (l : List Ru) : Prop := l.length = n ∧ (0 < n → ∃ b off, a = some ⟨b, off, none⟩ ∧ ∀ (j : Nat) x, l[j]? = some x → w.cell? ⟨b, off + j * 3, none⟩ = some (.int .i64 x.1) ∧ w.cell? ⟨b, off + j * 3 + 1, none⟩ = some (.string (mk x.2.1)) ∧ w.cell? ⟨b, off + j * 3 + 2, none⟩ = some (.string (mk x.2.2)))
theorem Rus.kept {w w' : World} {a : Option Addr} {n : Nat} {l : List Ru} (h : Rus w a n l) (hB : Below w.heap.size w w') : Rus w' a n l :=
  ⟨h.1, fun h0 => by
    obtain ⟨b, off, e, hc⟩ := h.2 h0
    refine ⟨b, off, e, fun j x hx => ?_⟩
    obtain ⟨h1, h2, h3⟩ := hc j x hx
    exact ⟨(hB.cell (p := ⟨b, off + j * 3, none⟩) (World.block_lt_of_cell? w _ h1)).trans h1, (hB.cell (p := ⟨b, off + j * 3 + 1, none⟩) (World.block_lt_of_cell? w _ h2)).trans h2, (hB.cell (p := ⟨b, off + j * 3 + 2, none⟩) (World.block_lt_of_cell? w _ h3)).trans h3⟩⟩
theorem rus_nil (w : World) (a : Option Addr) : Rus w a 0 [] := ⟨rfl, fun h => by omega⟩
theorem row_shapeR {w : World} {B n : Nat} {v : Value} {xs : List Value} (h : w.ownsRow B 26 3 v n xs) : ∃ ad c, v = .slice ad n c ∧ n ≤ c ∧ (ad = none → n = 0 ∧ c = 0) := by
  rcases h.2 with ⟨rfl, rfl⟩ | ⟨g, cap, cur, rfl, _, _, hc, _⟩
  · exact ⟨none, 0, rfl, Nat.le_refl _, fun _ => ⟨rfl, rfl⟩⟩
  · exact ⟨_, _, rfl, hc, fun h => by cases h⟩
theorem own_rus {w : World} {B n c : Nat} {ad : Option Addr} {l : List Ru} (h : w.ownsRow B 26 3 (.slice ad n c) n (ruCells l)) (hl : l.length = n) : Rus w ad n l := by
  refine ⟨hl, fun h0 => ?_⟩
  rcases h.2 with ⟨e, h'⟩ | ⟨g, cap, cur, e, _⟩
  · omega
  · cases e
    refine ⟨g, 0, rfl, fun j x hx => ?_⟩
    obtain ⟨h1, h2, h3⟩ := ruCells_get l j x hx
    have c1 := h.cells (g := g) rfl _ _ h1
    have c2 := h.cells (g := g) rfl _ _ h2
    have c3 := h.cells (g := g) rfl _ _ h3
    rw [Addr.add_lit] at c1 c2 c3
    simp only [Nat.zero_add] at c1 c2 c3 ⊢
    exact ⟨c1, c2, c3⟩
theorem row_blockR {W : World} {base n : Nat} {v : Value} {xs : List Value} (h : W.ownsRow base 26 3 v n xs) : ∀ r, v.ownBlock = some r → base ≤ r ∧ r < W.heap.size ∧ ∃ cur, W.heap[r]? = some (.cells cur 26 (0, 0)) := by
  intro r hr
  rcases h.2 with ⟨rfl, _⟩ | ⟨g, cap, cur, rfl, hb, hg, _⟩
  · cases hr
  · cases hr
    exact ⟨hb, (Array.getElem?_eq_some_iff.1 hg).1, cur, hg⟩
theorem below_grR {W W' : World} {B n : Nat} {v : Value} {xs : List Value} (h : W.ownsRow B 26 3 v n xs) (hB : B ≤ W.heap.size) (hg : W.grownBy W' v.ownBlock) : Below B W W' :=
  ⟨hg.os, hg.tape, hg.output, hg.size, fun k hk => hg.block k (by omega) (fun e => by have := (row_blockR h k e.symm).1; omega)⟩
theorem row_movedR {W W' : World} {base n : Nat} {v : Value} {xs : List Value} (h : W.ownsRow base 26 3 v n xs) (hs : ∀ r, v.ownBlock = some r → W'.heap[r]? = W.heap[r]?) : W'.ownsRow base 26 3 v n xs := by
  refine ⟨h.1, ?_⟩
  rcases h.2 with h | ⟨g, cap, cur, rfl, hg, hb, rest⟩
  · exact .inl h
  · exact .inr ⟨g, cap, cur, rfl, hg, (hs g rfl).trans hb, rest⟩
theorem row_baseR {W : World} {base base' n : Nat} {v : Value} {xs : List Value} (h : W.ownsRow base 26 3 v n xs) (hb : base' ≤ base) : W.ownsRow base' 26 3 v n xs := by
  refine ⟨h.1, ?_⟩
  rcases h.2 with h | ⟨g, cap, cur, rfl, hg, rest⟩
  · exact .inl h
  · exact .inr ⟨g, cap, cur, rfl, Nat.le_trans hb hg, rest⟩
theorem cells_ru_new (W : World) (x : Ru) : ∀ (j : Nat) u, (ruCells [x])[j]? = some u → (W.alloc (.cells #[.int .i64 x.1, .string (mk x.2.1), .string (mk x.2.2)] 26)).cell? (Addr.add ⟨W.heap.size, 0, none⟩ j) = some u := by
  intro j u hj
  match j, hj with
  | 0, hj => simp [ruCells] at hj; subst hj; simp [Addr.add]
  | 1, hj => simp [ruCells] at hj; subst hj; simp [Addr.add]
  | 2, hj => simp [ruCells] at hj; subst hj; simp [Addr.add]
end Go.Proofs.YtdchmmdndgbllaaDoor
