import Derived.Test.YtdchmmdndgbllaaDoorY15
import Derived.Test.YtdchmmdndgbllaaDoorY23
import Derived.Test.YtdchmmdndgbllaaDoorY22
/- The walks of firstErr, join, Move, Join. -/
namespace Go.Proofs.YtdchmmdndgbllaaDoor
open Go.RowKit Go.Shelf

attribute [local go_sem] Oper.semAt_some

/-- a slice of texts -/
theorem firstP_drop (l : List ByteArray) (k : Nat) (x : ByteArray) (hx : l[k]? = some x) : firstP ((l.drop k).map bs) = if isP (bs x) then firstP ((l.drop (k + 1)).map bs) else (pathSpot (bs x)).1 := by
  have hk : k < l.length := (List.getElem?_eq_some_iff.1 hx).1
  rw [List.drop_eq_getElem_cons hk, (List.getElem?_eq_some_iff.1 hx).2]
  rfl

def joinS (p q : ByteArray) : ByteArray := mk ((joinP (bs p) (bs q)).getD [])
def joinE (p q : ByteArray) : Nat := if (joinP (bs p) (bs q)).isSome then 0 else 3

theorem joinP_mid (p q : ByteArray) (h1 : bs p ≠ []) (h2 : bs q ≠ []) : joinP (bs p) (bs q) = if 16 < (parts (bs p)).length + (parts (bs q)).length ∨ 200 < p.size + 1 + q.size then none else some (bs p ++ 47 :: bs q) := by
  unfold joinP
  rw [if_neg h1, if_neg h2, bs_len, bs_len]

def ncutT (s : ByteArray) : ByteArray := s.extract 0 (min s.size 4096)
theorem ncutT_size (s : ByteArray) : (ncutT s).size ≤ 4096 := by simp [ncutT]; omega
theorem badAt_ascii (l : List UInt8) (h : ∀ c ∈ l, 32 ≤ c.toNat ∧ c.toNat < 127 ∧ c ≠ 47) : badAt l = none := by
  induction l with
  | nil => exact badAt_nil
  | cons c t ih =>
    obtain ⟨h1, h2, h3⟩ := h c (by simp)
    have hd := dec_ascii c t (by omega)
    have hb : bad (c :: t) = false := by
      have h4 : ¬ c.toNat = 47 := fun e => h3 (UInt8.toNat_inj.1 e)
      simp only [bad, hd]
      simp
      omega
    rw [badAt_go _ (by simp) hb, hd]
    simp only [List.drop_succ_cons, List.drop_zero]
    rw [ih (fun x hx => h x (by simp [hx]))]; rfl
theorem okName_ascii (l : List UInt8) (h0 : ¬ (l = [] ∨ l = [46] ∨ l = [46, 46])) (h1 : l.length ≤ 32) (h : ∀ c ∈ l, 32 ≤ c.toNat ∧ c.toNat < 127 ∧ c ≠ 47) : okName l = true := by
  unfold okName spot
  rw [if_neg h0, if_neg (by omega), badAt_ascii l h]; rfl
theorem isP_of (l : List UInt8) (h1 : l.length ≤ 200) (h2 : (parts l).length ≤ 16) (h3 : ∀ n ∈ parts l, okName n = true) : isP l = true := (isP_iff l).2 ⟨h1, h3, h2⟩
theorem isP_ab : isP [97, 47, 98] = true := isP_of _ (by decide) (by decide) (fun n hn => by
  have e : parts [97, 47, 98] = [[97], [98]] := by decide
  rw [e] at hn
  simp at hn
  rcases hn with rfl | rfl <;> exact okName_ascii _ (by decide) (by decide) (by decide))
theorem isP_abw : isP [97, 98] = true := isP_of _ (by decide) (by decide) (fun n hn => by
  have e : parts [97, 98] = [[97, 98]] := by decide
  rw [e] at hn
  simp at hn
  subst hn; exact okName_ascii _ (by decide) (by decide) (by decide))
theorem isP_a : isP [97] = true := isP_of _ (by decide) (by decide) (fun n hn => by
  have e : parts [97] = [[97]] := by decide
  rw [e] at hn
  simp at hn
  subst hn; exact okName_ascii _ (by decide) (by decide) (by decide))
theorem isP_xy : isP [120, 47, 121] = true := isP_of _ (by decide) (by decide) (fun n hn => by
  have e : parts [120, 47, 121] = [[120], [121]] := by decide
  rw [e] at hn
  simp at hn
  rcases hn with rfl | rfl <;> exact okName_ascii _ (by decide) (by decide) (by decide))
theorem move_wakes : moveP [97, 47, 98] [97] [120, 47, 121] = ([120, 47, 121, 47, 98], 0) := by
  have e0 : firstP [[97, 47, 98], [97], [120, 47, 121]] = 0 := by simp only [firstP, isP_ab, isP_a, isP_xy, if_true]
  have e1 : restP [97, 47, 98] [97] = some [98] := by decide
  have e2 : joinP [120, 47, 121] [98] = some [120, 47, 121, 47, 98] := by decide
  unfold moveP
  rw [e0, e1]
  simp only [ne_eq, not_true_eq_false, if_false, e2]
theorem in_wakes : inP [97, 47, 98] [97] = true := by
  have e1 : restP [97, 47, 98] [97] = some [98] := by decide
  unfold inP; rw [isP_ab, isP_a, e1]; rfl
theorem in_wakes_no : inP [97, 98] [97] = false := by
  have e1 : restP [97, 98] [97] = none := by decide
  unfold inP; rw [isP_abw, isP_a, e1]; rfl
theorem spot_wakes : spot [47] = (140, 0) := by
  have hb : bad [47] = true := by
    unfold bad; rw [dec_ascii 47 [] (by decide)]; decide
  unfold spot
  rw [if_neg (by decide), if_neg (by decide), badAt_bad _ (by decide) hb]

end Go.Proofs.YtdchmmdndgbllaaDoor

/- The walk of wakes. -/
namespace Go.Proofs.YtdchmmdndgbllaaDoor
open Go.RowKit

theorem plainF_cons (c : UInt8) (t : List UInt8) (h1 : 33 ≤ c.toNat) (h2 : c.toNat ≤ 126) (h3 : c ≠ 34) (h4 : c ≠ 92) : plainF (c :: t) = plainF t := by
  have hd := dec_ascii c t (by omega)
  have hb : badw (c :: t) = false := by
    unfold badw
    rw [brk_iff _ (by simp), hd]
    have e1 : c.toNat ≠ 34 := fun e => h3 (UInt8.toNat_inj.1 e)
    have e2 : c.toNat ≠ 92 := fun e => h4 (UInt8.toNat_inj.1 e)
    simp [ctl, e1, e2]; omega
  rw [plainF_go _ (by simp), hb, hd]; rfl
theorem qs_cons (c : UInt8) (t : List UInt8) (h1 : 32 ≤ c.toNat) (h2 : c.toNat ≤ 126) (h3 : c ≠ 34) (h4 : c ≠ 92) : qs (c :: t) = c :: qs t := by
  have hd := dec_ascii c t (by omega)
  have e1 : c.toNat ≠ 34 := fun e => h3 (UInt8.toNat_inj.1 e)
  have e2 : c.toNat ≠ 92 := fun e => h4 (UInt8.toNat_inj.1 e)
  have hp : qpiece (c :: t) = [c] := by
    unfold qpiece
    rw [brk_iff _ (by simp), hd]
    simp only
    rw [if_neg (by omega), if_neg (by omega), if_neg]
    · rfl
    · simp [ctl]; omega
  rw [qs_go _ (by simp), hp, hd]; rfl

def wakeL : List UInt8 := [109, 111, 118, 101, 32, 32, 97, 32, 34, 98, 32, 99, 34, 32, 35, 32, 120]
theorem wake_q : quoteL [98, 32, 99] = [34, 98, 32, 99, 34] := by
  unfold quoteL
  rw [qs_cons 98 _ (by decide) (by decide) (by decide) (by decide), qs_cons 32 _ (by decide) (by decide) (by decide) (by decide), qs_cons 99 _ (by decide) (by decide) (by decide) (by decide), qs_nil]; rfl
theorem wake_words : wordsL wakeL 0 = .ok [[109, 111, 118, 101], [97], [98, 32, 99]] := by
  unfold wakeL
  have p1 : plainL [109, 111, 118, 101] = true := by
    unfold plainL
    rw [plainF_cons 109 _ (by decide) (by decide) (by decide) (by decide), plainF_cons 111 _ (by decide) (by decide) (by decide) (by decide), plainF_cons 118 _ (by decide) (by decide) (by decide) (by decide), plainF_cons 101 _ (by decide) (by decide) (by decide) (by decide), plainF_nil]; rfl
  have p2 : plainL [97] = true := by
    unfold plainL
    rw [plainF_cons 97 _ (by decide) (by decide) (by decide) (by decide), plainF_nil]; rfl
  have q1 : qEnd [98, 32, 99, 34, 32, 35, 32, 120] = some 4 := by
    rw [qEnd_go _ (by simp) (by decide) (by decide)]
    show (qEnd [32, 99, 34, 32, 35, 32, 120]).map _ = _
    rw [qEnd_go _ (by simp) (by decide) (by decide)]
    show ((qEnd [99, 34, 32, 35, 32, 120]).map _).map _ = _
    rw [qEnd_go _ (by simp) (by decide) (by decide)]
    show (((qEnd [34, 32, 35, 32, 120]).map _).map _).map _ = _
    rw [qEnd_end _ (by simp) (by decide)]; rfl
  have b1 : blk [111, 118, 101, 32, 32, 97, 32, 34, 98, 32, 99, 34, 32, 35, 32, 120] = 3 := by decide
  have b2 : blk [32, 34, 98, 32, 99, 34, 32, 35, 32, 120] = 0 := by decide
  have u1 : unq [34, 98, 32, 99, 34] = some [98, 32, 99] := by rw [← wake_q]; exact unq_quote _
  have e5 : wordsL [32, 35, 32, 120] 13 = .ok [] := by
    rw [wordsL_blank _ _ (by simp) (by decide)]
    show wordsL [35, 32, 120] 14 = _
    rw [wordsL_rem _ _ (by simp) (by decide)]
  have e4 : wordsL [34, 98, 32, 99, 34, 32, 35, 32, 120] 8 = .ok [[98, 32, 99]] := by
    rw [wordsL_quote [34, 98, 32, 99, 34, 32, 35, 32, 120] 8 4 (by simp) (by decide) q1]
    show (if ((unq [34, 98, 32, 99, 34]).isSome && endsL [32, 35, 32, 120]) = true then addW [(unq [34, 98, 32, 99, 34]).getD []] (wordsL [32, 35, 32, 120] 13) else .error 8) = _
    rw [u1, e5]; rfl
  have e3 : wordsL [97, 32, 34, 98, 32, 99, 34, 32, 35, 32, 120] 6 = .ok [[97], [98, 32, 99]] := by
    rw [wordsL_plain _ _ (by simp) (by decide) (by decide) (by decide)]
    show (if plainL (List.take (1 + blk [32, 34, 98, 32, 99, 34, 32, 35, 32, 120]) [97, 32, 34, 98, 32, 99, 34, 32, 35, 32, 120]) = true then addW [List.take (1 + blk [32, 34, 98, 32, 99, 34, 32, 35, 32, 120]) [97, 32, 34, 98, 32, 99, 34, 32, 35, 32, 120]] (wordsL (List.drop (1 + blk [32, 34, 98, 32, 99, 34, 32, 35, 32, 120]) [97, 32, 34, 98, 32, 99, 34, 32, 35, 32, 120]) (6 + (1 + blk [32, 34, 98, 32, 99, 34, 32, 35, 32, 120]))) else .error 6) = _
    rw [b2]
    show (if plainL [97] = true then addW [[97]] (wordsL [32, 34, 98, 32, 99, 34, 32, 35, 32, 120] 7) else .error 6) = _
    rw [p2, if_pos rfl, wordsL_blank _ _ (by simp) (by decide)]
    show addW [[97]] (wordsL [34, 98, 32, 99, 34, 32, 35, 32, 120] 8) = _
    rw [e4]; rfl
  rw [wordsL_plain _ _ (by simp) (by decide) (by decide) (by decide)]
  show (if plainL (List.take (1 + blk [111, 118, 101, 32, 32, 97, 32, 34, 98, 32, 99, 34, 32, 35, 32, 120]) [109, 111, 118, 101, 32, 32, 97, 32, 34, 98, 32, 99, 34, 32, 35, 32, 120]) = true then addW [List.take (1 + blk [111, 118, 101, 32, 32, 97, 32, 34, 98, 32, 99, 34, 32, 35, 32, 120]) [109, 111, 118, 101, 32, 32, 97, 32, 34, 98, 32, 99, 34, 32, 35, 32, 120]] (wordsL (List.drop (1 + blk [111, 118, 101, 32, 32, 97, 32, 34, 98, 32, 99, 34, 32, 35, 32, 120]) [109, 111, 118, 101, 32, 32, 97, 32, 34, 98, 32, 99, 34, 32, 35, 32, 120]) (0 + (1 + blk [111, 118, 101, 32, 32, 97, 32, 34, 98, 32, 99, 34, 32, 35, 32, 120]))) else .error 0) = _
  rw [b1]
  show (if plainL [109, 111, 118, 101] = true then addW [[109, 111, 118, 101]] (wordsL [32, 32, 97, 32, 34, 98, 32, 99, 34, 32, 35, 32, 120] 4) else .error 0) = _
  rw [p1, if_pos rfl, wordsL_blank _ _ (by simp) (by decide)]
  show addW [[109, 111, 118, 101]] (wordsL [32, 97, 32, 34, 98, 32, 99, 34, 32, 35, 32, 120] 5) = _
  rw [wordsL_blank _ _ (by simp) (by decide)]
  show addW [[109, 111, 118, 101]] (wordsL [97, 32, 34, 98, 32, 99, 34, 32, 35, 32, 120] 6) = _
  rw [e3]; rfl
theorem wake_quote : quoteL [9, 255] = [34, 92, 120, 48, 57, 92, 120, 102, 102, 34] := by
  have d1 : dec [9, 255] = (9, 1) := dec_ascii 9 _ (by decide)
  have d2 : dec [255] = (65533, 1) := by decide +kernel
  have q2 : qs [255] = esc 255 := by
    rw [qs_go _ (by simp)]
    have : qpiece [255] = esc 255 := by
      unfold qpiece
      rw [brk_iff _ (by simp), d2]; rfl
    rw [this, d2]
    show esc 255 ++ qs [] = _
    rw [qs_nil, List.append_nil]
  have q1 : qs [9, 255] = esc 9 ++ esc 255 := by
    rw [qs_go _ (by simp)]
    have : qpiece [9, 255] = esc 9 := by
      unfold qpiece
      rw [brk_iff _ (by simp), d1]; rfl
    rw [this, d1]
    show esc 9 ++ qs [255] = _
    rw [q2]
  unfold quoteL
  rw [q1]; rfl

theorem words_wake {w W : World} {e : Ending} (h : (∃ ws v, wordsL (bs ⟨#[109, 111, 118, 101, 32, 32, 97, 32, 34, 98, 32, 99, 34, 32, 35, 32, 120]⟩) 0 = .ok ws ∧ e = .returned (.tuple #[v, .agg #[.int .i64 0, .int .i64 0]]) ∧ W.ownsRow (w.heap.size + 1) 9 1 v ws.length (wcells ws)) ∨
    (∃ p : Nat, wordsL (bs ⟨#[109, 111, 118, 101, 32, 32, 97, 32, 34, 98, 32, 99, 34, 32, 35, 32, 120]⟩) 0 = .error p ∧ e = .returned (.tuple #[.slice none 0 0, .agg #[.int .i64 150, .int .i64 (p : Int)]]))) :
    ∃ g c, e = .returned (.tuple #[.slice (some ⟨g, 0, none⟩) 3 c, .agg #[.int .i64 0, .int .i64 0]]) ∧ W.cell? ⟨g, 2, none⟩ = some (.string (mk [98, 32, 99])) := by
  have hw : wordsL (bs ⟨#[109, 111, 118, 101, 32, 32, 97, 32, 34, 98, 32, 99, 34, 32, 35, 32, 120]⟩) 0 = .ok [[109, 111, 118, 101], [97], [98, 32, 99]] := wake_words
  rcases h with ⟨ws, v, hr, rfl, hrow⟩ | ⟨p, hr, _⟩
  · rw [hw] at hr
    cases hr
    rcases hrow.2 with ⟨_, h0⟩ | ⟨g, cap, cur, rfl, _, hg, hc, _, _, ht⟩
    · cases h0
    · refine ⟨g, cap, rfl, ?_⟩
      have ht' : cur.toList.take 3 = wcells [[109, 111, 118, 101], [97], [98, 32, 99]] := ht
      have e : (cur.toList.take 3)[2]? = some (.string (mk [98, 32, 99])) := by rw [ht']; rfl
      rw [List.getElem?_take_of_lt (by omega)] at e
      simp only [World.cell?, hg]
      rw [← Array.getElem?_toList]; exact e
  · rw [hw] at hr; cases hr
theorem box_facts (w : World) {g : Nat} {z : Value} (h : w.cell? ⟨g, 2, none⟩ = some z) : Box2 (w.alloc (.cells #[.int .i64 0, .int .i64 0] 35)) w.heap.size (.int .i64 0) (.int .i64 0) ∧ (w.alloc (.cells #[.int .i64 0, .int .i64 0] 35)).cell? ⟨g, 2, none⟩ = some z :=
  ⟨Box2.new _ _ _, (World.grownBy_alloc w _ none).cell h (by simp)⟩

end Go.Proofs.YtdchmmdndgbllaaDoor
