import Derived.Test.YtdchmmdndgbllaaDoorY09
import Derived.WalkKit
/- Lines that are dressed: blanks, quoted words, remarks, empty lines. Plain. -/
namespace Go.Proofs.YtdchmmdndgbllaaDoor

def blJ (x : Int) : Nat := ((max x 0) % 5).toNat + 1
def noteL (r : List UInt8) : List UInt8 := r.filter fun b => b != 10
def wdsD (j : Nat) (ws : List (List UInt8)) : List UInt8 := ws.flatMap fun w => List.replicate j 32 ++ quoteL w
def drL (j : Nat) (note : List UInt8) (ws : List (List UInt8)) : List UInt8 := wdsD j ws ++ ([32, 35] ++ note)
def okW (l : List UInt8) : List (List UInt8) := match wordsL l 0 with | .ok ws => ws | .error _ => []
def drT (j : Nat) (note : List UInt8) (ls : List (List UInt8)) : List UInt8 := ls.flatMap fun l => drL j note (okW l) ++ [10, 10]
def drLs (j : Nat) (note : List UInt8) (ls : List (List UInt8)) : List (List UInt8) := ls.flatMap fun l => [drL j note (okW l), []]

theorem wdsD_cons (j : Nat) (w : List UInt8) (r : List (List UInt8)) : wdsD j (w :: r) = List.replicate j 32 ++ (quoteL w ++ wdsD j r) := by
  simp [wdsD]
theorem wdsD_snoc (j : Nat) (ws : List (List UInt8)) (w : List UInt8) : wdsD j (ws ++ [w]) = wdsD j ws ++ (List.replicate j 32 ++ quoteL w) := by
  simp [wdsD]
theorem words_blanks : ∀ (j : Nat) (X : List UInt8) (p : Nat), wordsL (List.replicate j 32 ++ X) p = wordsL X (p + j)
  | 0, X, p => rfl
  | j + 1, X, p => by
    rw [List.replicate_succ, List.cons_append, wordsL_blank _ p (by simp) (by simp)]
    show wordsL (List.replicate j 32 ++ X) (p + 1) = _
    rw [words_blanks j X (p + 1)]
    congr 1; omega
theorem words_dress (j : Nat) (hj : 1 ≤ j) (note : List UInt8) : ∀ (ws : List (List UInt8)) (p : Nat), wordsL (drL j note ws) p = .ok ws
  | [], p => by
    show wordsL (32 :: (35 :: note)) p = _
    rw [wordsL_blank _ p (by simp) (by simp)]
    show wordsL (35 :: note) (p + 1) = _
    rw [wordsL_rem _ _ (by simp) (by simp)]
  | w :: r, p => by
    unfold drL
    rw [wdsD_cons, List.append_assoc, List.append_assoc, words_blanks]
    have he : endsL (wdsD j r ++ ([32, 35] ++ note)) = true := by
      cases r with
      | nil => rfl
      | cons x r =>
        obtain ⟨i, rfl⟩ : ∃ i, j = i + 1 := ⟨j - 1, by omega⟩
        rw [wdsD_cons, List.replicate_succ]; rfl
    rw [wordsL_quoted w _ _ he]
    have := words_dress j hj note r (p + j + (quoteL w).length)
    unfold drL at this
    rw [this]
    rfl
theorem drT_back (j : Nat) (note : List UInt8) : ∀ ls : List (List UInt8), drT j note ls = backL (drLs j note ls)
  | [] => rfl
  | l :: r => by
    have ih := drT_back j note r
    unfold drT drLs backL at *
    rw [List.flatMap_cons, List.flatMap_cons, List.flatMap_append, ← ih]
    simp
theorem wds_ten (j : Nat) : ∀ ws : List (List UInt8), (10 : UInt8) ∉ wdsD j ws := by
  intro ws h
  obtain ⟨w, _, hw⟩ := List.mem_flatMap.1 h
  rcases List.mem_append.1 hw with hw | hw
  · exact absurd (List.mem_replicate.1 hw).2 (by decide)
  · exact quote_ten w hw
theorem dr_ten (j : Nat) {note : List UInt8} (hn : (10 : UInt8) ∉ note) (ws : List (List UInt8)) : (10 : UInt8) ∉ drL j note ws := by
  intro h
  unfold drL at h
  rcases List.mem_append.1 h with h | h
  · exact wds_ten j ws h
  · rcases List.mem_append.1 h with h | h
    · revert h; decide
    · exact hn h
theorem note_ten (r : List UInt8) : (10 : UInt8) ∉ noteL r := fun h => by
  have := (List.mem_filter.1 h).2
  revert this; decide
theorem lines_dress (j : Nat) {note : List UInt8} (hn : (10 : UInt8) ∉ note) (ls : List (List UInt8)) : linesL (drT j note ls) = drLs j note ls := by
  have h := lines_back (drLs j note ls) [] (fun l hl => by
    obtain ⟨x, _, hx⟩ := List.mem_flatMap.1 hl
    rcases List.mem_cons.1 hx with rfl | hx
    · exact dr_ten j hn _
    · rw [List.mem_singleton.1 hx]; simp)
  rw [List.append_nil] at h
  rw [drT_back, h]
  exact List.append_nil _
theorem lineG_dress (j : Nat) (hj : 1 ≤ j) (note l : List UInt8) {o : Option Ru} (h : lineG l = .ok o) : lineG (drL j note (okW l)) = .ok o := by
  unfold lineG okW at *
  rw [words_dress j hj]
  cases hw : wordsL l 0 with
  | error p => rw [hw] at h; cases h
  | ok ws =>
    rw [hw] at h
    exact h
theorem lineG_nil : lineG [] = .ok none := by unfold lineG; rw [wordsL_nil]
theorem readG_dress (j : Nat) (hj : 1 ≤ j) (note : List UInt8) : ∀ (ls : List (List UInt8)) (rs : List Ru) (b b' : Nat) (out : List Ru), readG ls rs b = .ok out → readG (drLs j note ls) rs b' = .ok out
  | [], rs, b, b', out, h => h
  | l :: ls, rs, b, b', out, h => by
    show readG (drL j note (okW l) :: [] :: drLs j note ls) rs b' = _
    unfold readG at h
    split at h
    · cases h
    · rename_i hl
      rw [readG, lineG_dress j hj note l hl]
      show readG ([] :: drLs j note ls) rs _ = _
      rw [readG, lineG_nil]
      exact readG_dress j hj note ls rs _ _ out h
    · rename_i r hl
      rw [readG, lineG_dress j hj note l hl]
      split at h
      · cases h
      · rename_i h64
        show (if rs.length = 64 then _ else readG ([] :: drLs j note ls) (rs ++ [r]) _) = _
        rw [if_neg h64, readG, lineG_nil]
        exact readG_dress j hj note ls _ _ _ out h
/-- dress changes nothing -/
theorem readT_dress (j : Nat) (hj : 1 ≤ j) {note : List UInt8} (hn : (10 : UInt8) ∉ note) {t : List UInt8} {rs : List Ru} (h : readT t = .ok rs) (hl : (drT j note (linesL t)).length ≤ 131072) : readT (drT j note (linesL t)) = .ok rs := by
  unfold readT at h ⊢
  split at h
  · cases h
  · rw [if_neg (by omega), lines_dress j hn]
    exact readG_dress j hj note _ _ _ _ _ h
theorem readG_line : ∀ (ls : List (List UInt8)) (rs : List Ru) (b : Nat) (out : List Ru), readG ls rs b = .ok out → ∀ l ∈ ls, ∃ ws, wordsL l 0 = .ok ws
  | [], rs, b, out, h, l, hl => by cases hl
  | x :: r, rs, b, out, h, l, hl => by
    unfold readG at h
    split at h
    · cases h
    · rename_i hx
      rcases List.mem_cons.1 hl with rfl | hl
      · cases hw : wordsL l 0 with
        | ok ws => exact ⟨ws, rfl⟩
        | error p => unfold lineG at hx; rw [hw] at hx; cases hx
      · exact readG_line r _ _ _ h l hl
    · rename_i r' hx
      split at h
      · cases h
      · rcases List.mem_cons.1 hl with rfl | hl
        · obtain ⟨_, ws, hw, _⟩ := lineG_ok hx
          exact ⟨ws, hw⟩
        · exact readG_line r _ _ _ h l hl
theorem readT_line {t : List UInt8} {rs : List Ru} (h : readT t = .ok rs) : t.length ≤ 131072 ∧ ∀ l ∈ linesL t, ∃ ws, wordsL l 0 = .ok ws := by
  unfold readT at h
  split at h
  · cases h
  · exact ⟨by omega, readG_line _ _ _ _ h⟩
theorem okW_ok {l : List UInt8} {ws : List (List UInt8)} (h : wordsL l 0 = .ok ws) : okW l = ws := by unfold okW; rw [h]
theorem quoteL_len (s : List UInt8) : (quoteL s).length ≤ 4 * s.length + 2 := by
  have := qs_len _ s (Nat.le_refl _)
  simp [quoteL]; omega
theorem wdsD_len (j : Nat) (hj : j ≤ 5) : ∀ ws : List (List UInt8), (wdsD j ws).length ≤ 7 * ws.length + 4 * (ws.map List.length).sum
  | [] => by simp [wdsD]
  | w :: r => by
    have h1 := wdsD_len j hj r
    have h2 := quoteL_len w
    rw [wdsD_cons]
    simp only [List.length_append, List.length_replicate, List.length_cons, List.map_cons, List.sum_cons]
    omega
theorem okW_room (l : List UInt8) : ((okW l).map List.length).sum ≤ l.length ∧ (okW l).length ≤ l.length := by
  unfold okW
  cases hw : wordsL l 0 with
  | error p => simp
  | ok ws => exact words_room _ l 0 ws (Nat.le_refl _) hw
theorem sum_take : ∀ (ws : List (List UInt8)) (k : Nat), ((ws.take k).map List.length).sum ≤ (ws.map List.length).sum
  | [], k => by simp
  | w :: r, 0 => by simp
  | w :: r, k + 1 => by
    have := sum_take r k
    simp only [List.take_succ_cons, List.map_cons, List.sum_cons]
    omega
theorem wds_small (j : Nat) (hj : j ≤ 5) (l : List UInt8) (k : Nat) : (wdsD j ((okW l).take k)).length ≤ 11 * l.length := by
  have h1 := wdsD_len j hj ((okW l).take k)
  have h2 := okW_room l
  have h3 := sum_take (okW l) k
  have h4 : ((okW l).take k).length ≤ (okW l).length := by rw [List.length_take]; omega
  omega
theorem drT_len (j : Nat) (hj : j ≤ 5) (note : List UInt8) : ∀ ls : List (List UInt8), (drT j note ls).length ≤ 11 * (ls.map List.length).sum + ls.length * (note.length + 4)
  | [] => by simp [drT]
  | l :: r => by
    have ih := drT_len j hj note r
    have h1 := wds_small j hj l (okW l).length
    rw [List.take_length] at h1
    have e1 : drT j note (l :: r) = drL j note (okW l) ++ ([10, 10] ++ drT j note r) := by simp [drT]
    have e2 : (drL j note (okW l)).length = (wdsD j (okW l)).length + (note.length + 2) := by simp [drL]
    have e3 : (r.length + 1) * (note.length + 4) = r.length * (note.length + 4) + (note.length + 4) := Nat.succ_mul _ _
    rw [e1, List.length_append, List.length_append, e2, List.map_cons, List.sum_cons, show (l :: r).length = r.length + 1 from rfl, e3]
    generalize r.length * (note.length + 4) = q at *
    simp only [List.length_cons, List.length_nil]
    omega
theorem drT_snoc (j : Nat) (note : List UInt8) (ls : List (List UInt8)) (l : List UInt8) : drT j note (ls ++ [l]) = drT j note ls ++ (drL j note (okW l) ++ [10, 10]) := by
  simp [drT]
theorem lines_sum : ∀ (ls : List (List UInt8)), (backL ls).length = (ls.map List.length).sum + ls.length
  | [] => rfl
  | l :: r => by
    have ih := lines_sum r
    unfold backL at *
    rw [List.flatMap_cons, List.length_append, ih]
    simp; omega
theorem drT_small (j : Nat) (hj : j ≤ 5) (note t : List UInt8) (ht : t.length ≤ 131072) (hn : note.length ≤ 1048576) (k : Nat) : (drT j note ((linesL t).take k)).length ≤ 1000000000000 := by
  have h1 := drT_len j hj note ((linesL t).take k)
  have h2 := back_len t
  have h3 := lines_sum ((linesL t).take k)
  have h4 : (backL ((linesL t).take k)).length ≤ (backL (linesL t)).length := by
    conv => rhs; rw [← List.take_append_drop k (linesL t)]
    unfold backL
    rw [List.flatMap_append, List.length_append]; omega
  have h5 : ((linesL t).take k).length * (note.length + 4) ≤ 131073 * 1048580 := Nat.mul_le_mul (by omega) (by omega)
  omega
end Go.Proofs.YtdchmmdndgbllaaDoor

/- Plain facts on bytes and on rows of cells that hold them; nothing of the program is named here. -/
namespace Go.Proofs.YtdchmmdndgbllaaDoor
open Go.RowKit

/-- byte i of a list, as a number -/
def bt (l : List UInt8) (i : Nat) : Int := ((l.getD i 0).toNat : Int)
theorem bt_lo (l : List UInt8) (i : Nat) : 0 ≤ bt l i := by unfold bt; omega
theorem bt_hi (l : List UInt8) (i : Nat) : bt l i ≤ 255 := by
  unfold bt
  have := (l.getD i 0).toNat_lt
  omega
theorem bt_cons (c : UInt8) (l : List UInt8) (i : Nat) : bt (c :: l) (i + 1) = bt l i := by simp [bt]
theorem bt_drop (l : List UInt8) (k i : Nat) : bt (l.drop k) i = bt l (k + i) := by simp [bt, List.getD]
theorem bt_take (l : List UInt8) (k i : Nat) (h : i < k) : bt (l.take k) i = bt l i := by simp [bt, List.getD, h]

/-- a slice value of n bytes that leads to the list l -/
def Bytes (w : World) (a : Option Addr) (n : Nat) (l : List UInt8) : Prop :=
  l.length = n ∧ (0 < n → ∃ b off, a = some ⟨b, off, none⟩ ∧ ∀ i, i < n → w.cell? ⟨b, off + i, none⟩ = some (.int .u8 (bt l i)))

theorem Bytes.take {w : World} {a : Option Addr} {n : Nat} {l : List UInt8} (h : Bytes w a n l) (k : Nat) (hk : k ≤ n) : Bytes w a k (l.take k) := by
  refine ⟨by have := h.1; simp; omega, fun hp => ?_⟩
  obtain ⟨b, off, rfl, hc⟩ := h.2 (by omega)
  exact ⟨b, off, rfl, fun i hi => by rw [bt_take _ _ _ hi]; exact hc i (by omega)⟩

/-- the cells of a list of bytes -/
def cellsOf (l : List UInt8) : List Value := l.map fun c => Value.int .u8 (c.toNat : Int)
theorem cellsOf_length (l : List UInt8) : (cellsOf l).length = l.length := by simp [cellsOf]
theorem cellsOf_get (l : List UInt8) (i : Nat) (h : i < l.length) : (cellsOf l)[i]? = some (.int .u8 (bt l i)) := by
  simp [cellsOf, bt, h]
theorem cellsOf_one (l : List UInt8) : ∀ u ∈ cellsOf l, u.oneCell' = true := by
  intro u hu
  obtain ⟨_, _, rfl⟩ := List.mem_map.1 hu
  rfl
theorem cellsOf_append (l m : List UInt8) : cellsOf (l ++ m) = cellsOf l ++ cellsOf m := by simp [cellsOf]

end Go.Proofs.YtdchmmdndgbllaaDoor
