import Derived.Test.YtggnglgehobglaaGreatDoorP05
import Derived.Test.YtggnglgehobglaaGreatDoorP40
import Derived.Test.YtggnglgehobglaaGreatDoorP39
import Derived.Test.YtggnglgehobglaaGreatDoorP44
import Derived.BigQuiet
import Derived.Test.YtggnglgehobglaaGreatDoorP48
import Derived.Test.YtggnglgehobglaaGreatDoorP29
/- The walks of firstErr, join, Move, Join. -/
namespace Go.Proofs.YtggnglgehobglaaGreatDoor
open Go.RowKit Go.Shelf

attribute [local go_sem] Oper.semAt_some

/-- a slice of texts -/
theorem firstP_drop (l : List ByteArray) (k : Nat) (x : ByteArray) (hx : l[k]? = some x) : firstP ((l.drop k).map bs) = if isP (bs x) then firstP ((l.drop (k + 1)).map bs) else (pathSpot (bs x)).1 := by
  have hk : k < l.length := (List.getElem?_eq_some_iff.1 hx).1
  rw [List.drop_eq_getElem_cons hk, (List.getElem?_eq_some_iff.1 hx).2]
  rfl

def joinS (p q : ByteArray) : ByteArray := mk ((joinP (bs p) (bs q)).getD [])
def joinE (p q : ByteArray) : Nat := if (joinP (bs p) (bs q)).isSome then 0 else 3

theorem joinP_mid (p q : ByteArray) (h1 : bs p ≠ []) (h2 : bs q ≠ []) : joinP (bs p) (bs q) = if 16 < (parts (bs p)).length + (parts (bs q)).length ∨ 200 < p.size + 1 + q.size then none else some (bs p ++ 47 :: bs q) := by
  unfold joinP
  rw [if_neg h1, if_neg h2, bs_len, bs_len]

def ncutT (s : ByteArray) : ByteArray := s.extract 0 (min s.size 4096)
theorem ncutT_size (s : ByteArray) : (ncutT s).size ≤ 4096 := by simp [ncutT]; omega
theorem badAt_ascii (l : List UInt8) (h : ∀ c ∈ l, 32 ≤ c.toNat ∧ c.toNat < 127 ∧ c ≠ 47) : badAt l = none := by
  induction l with
  | nil => exact badAt_nil
  | cons c t ih =>
    obtain ⟨h1, h2, h3⟩ := h c (by simp)
    have hd := dec_ascii c t (by omega)
    have hb : bad (c :: t) = false := by
      have h4 : ¬ c.toNat = 47 := fun e => h3 (UInt8.toNat_inj.1 e)
      simp only [bad, hd]
      simp
      omega
    rw [badAt_go _ (by simp) hb, hd]
    simp only [List.drop_succ_cons, List.drop_zero]
    rw [ih (fun x hx => h x (by simp [hx]))]; rfl
theorem okName_ascii (l : List UInt8) (h0 : ¬ (l = [] ∨ l = [46] ∨ l = [46, 46])) (h1 : l.length ≤ 32) (h : ∀ c ∈ l, 32 ≤ c.toNat ∧ c.toNat < 127 ∧ c ≠ 47) : okName l = true := by
  unfold okName spot
  rw [if_neg h0, if_neg (by omega), badAt_ascii l h]; rfl
theorem isP_of (l : List UInt8) (h1 : l.length ≤ 200) (h2 : (parts l).length ≤ 16) (h3 : ∀ n ∈ parts l, okName n = true) : isP l = true := (isP_iff l).2 ⟨h1, h3, h2⟩
theorem isP_ab : isP [97, 47, 98] = true := isP_of _ (by decide) (by decide) (fun n hn => by
  have e : parts [97, 47, 98] = [[97], [98]] := by decide
  rw [e] at hn
  simp at hn
  rcases hn with rfl | rfl <;> exact okName_ascii _ (by decide) (by decide) (by decide))
theorem isP_abw : isP [97, 98] = true := isP_of _ (by decide) (by decide) (fun n hn => by
  have e : parts [97, 98] = [[97, 98]] := by decide
  rw [e] at hn
  simp at hn
  subst hn; exact okName_ascii _ (by decide) (by decide) (by decide))
theorem isP_a : isP [97] = true := isP_of _ (by decide) (by decide) (fun n hn => by
  have e : parts [97] = [[97]] := by decide
  rw [e] at hn
  simp at hn
  subst hn; exact okName_ascii _ (by decide) (by decide) (by decide))
theorem isP_xy : isP [120, 47, 121] = true := isP_of _ (by decide) (by decide) (fun n hn => by
  have e : parts [120, 47, 121] = [[120], [121]] := by decide
  rw [e] at hn
  simp at hn
  rcases hn with rfl | rfl <;> exact okName_ascii _ (by decide) (by decide) (by decide))
theorem move_wakes : moveP [97, 47, 98] [97] [120, 47, 121] = ([120, 47, 121, 47, 98], 0) := by
  have e0 : firstP [[97, 47, 98], [97], [120, 47, 121]] = 0 := by simp only [firstP, isP_ab, isP_a, isP_xy, if_true]
  have e1 : restP [97, 47, 98] [97] = some [98] := by decide
  have e2 : joinP [120, 47, 121] [98] = some [120, 47, 121, 47, 98] := by decide
  unfold moveP
  rw [e0, e1]
  simp only [ne_eq, not_true_eq_false, if_false, e2]
theorem in_wakes : inP [97, 47, 98] [97] = true := by
  have e1 : restP [97, 47, 98] [97] = some [98] := by decide
  unfold inP; rw [isP_ab, isP_a, e1]; rfl
theorem in_wakes_no : inP [97, 98] [97] = false := by
  have e1 : restP [97, 98] [97] = none := by decide
  unfold inP; rw [isP_abw, isP_a, e1]; rfl
theorem spot_wakes : spot [47] = (140, 0) := by
  have hb : bad [47] = true := by
    unfold bad; rw [dec_ascii 47 [] (by decide)]; decide
  unfold spot
  rw [if_neg (by decide), if_neg (by decide), badAt_bad _ (by decide) hb]

end Go.Proofs.YtggnglgehobglaaGreatDoor

/- The walk of wakes. -/
namespace Go.Proofs.YtggnglgehobglaaGreatDoor
open Go.RowKit

theorem plainF_cons (c : UInt8) (t : List UInt8) (h1 : 33 ≤ c.toNat) (h2 : c.toNat ≤ 126) (h3 : c ≠ 34) (h4 : c ≠ 92) : plainF (c :: t) = plainF t := by
  have hd := dec_ascii c t (by omega)
  have hb : badw (c :: t) = false := by
    unfold badw
    rw [brk_iff _ (by simp), hd]
    have e1 : c.toNat ≠ 34 := fun e => h3 (UInt8.toNat_inj.1 e)
    have e2 : c.toNat ≠ 92 := fun e => h4 (UInt8.toNat_inj.1 e)
    simp [ctl, e1, e2]; omega
  rw [plainF_go _ (by simp), hb, hd]; rfl
theorem qs_cons (c : UInt8) (t : List UInt8) (h1 : 32 ≤ c.toNat) (h2 : c.toNat ≤ 126) (h3 : c ≠ 34) (h4 : c ≠ 92) : qs (c :: t) = c :: qs t := by
  have hd := dec_ascii c t (by omega)
  have e1 : c.toNat ≠ 34 := fun e => h3 (UInt8.toNat_inj.1 e)
  have e2 : c.toNat ≠ 92 := fun e => h4 (UInt8.toNat_inj.1 e)
  have hp : qpiece (c :: t) = [c] := by
    unfold qpiece
    rw [brk_iff _ (by simp), hd]
    simp only
    rw [if_neg (by omega), if_neg (by omega), if_neg]
    · rfl
    · simp [ctl]; omega
  rw [qs_go _ (by simp), hp, hd]; rfl

def wakeL : List UInt8 := [109, 111, 118, 101, 32, 32, 97, 32, 34, 98, 32, 99, 34, 32, 35, 32, 120]
theorem wake_q : quoteL [98, 32, 99] = [34, 98, 32, 99, 34] := by
  unfold quoteL
  rw [qs_cons 98 _ (by decide) (by decide) (by decide) (by decide), qs_cons 32 _ (by decide) (by decide) (by decide) (by decide), qs_cons 99 _ (by decide) (by decide) (by decide) (by decide), qs_nil]; rfl
theorem wake_words : wordsL wakeL 0 = .ok [[109, 111, 118, 101], [97], [98, 32, 99]] := by
  unfold wakeL
  have p1 : plainL [109, 111, 118, 101] = true := by
    unfold plainL
    rw [plainF_cons 109 _ (by decide) (by decide) (by decide) (by decide), plainF_cons 111 _ (by decide) (by decide) (by decide) (by decide), plainF_cons 118 _ (by decide) (by decide) (by decide) (by decide), plainF_cons 101 _ (by decide) (by decide) (by decide) (by decide), plainF_nil]; rfl
  have p2 : plainL [97] = true := by
    unfold plainL
    rw [plainF_cons 97 _ (by decide) (by decide) (by decide) (by decide), plainF_nil]; rfl
  have q1 : qEnd [98, 32, 99, 34, 32, 35, 32, 120] = some 4 := by
    rw [qEnd_go _ (by simp) (by decide) (by decide)]
    show (qEnd [32, 99, 34, 32, 35, 32, 120]).map _ = _
    rw [qEnd_go _ (by simp) (by decide) (by decide)]
    show ((qEnd [99, 34, 32, 35, 32, 120]).map _).map _ = _
    rw [qEnd_go _ (by simp) (by decide) (by decide)]
    show (((qEnd [34, 32, 35, 32, 120]).map _).map _).map _ = _
    rw [qEnd_end _ (by simp) (by decide)]; rfl
  have b1 : blk [111, 118, 101, 32, 32, 97, 32, 34, 98, 32, 99, 34, 32, 35, 32, 120] = 3 := by decide
  have b2 : blk [32, 34, 98, 32, 99, 34, 32, 35, 32, 120] = 0 := by decide
  have u1 : unq [34, 98, 32, 99, 34] = some [98, 32, 99] := by rw [← wake_q]; exact unq_quote _
  have e5 : wordsL [32, 35, 32, 120] 13 = .ok [] := by
    rw [wordsL_blank _ _ (by simp) (by decide)]
    show wordsL [35, 32, 120] 14 = _
    rw [wordsL_rem _ _ (by simp) (by decide)]
  have e4 : wordsL [34, 98, 32, 99, 34, 32, 35, 32, 120] 8 = .ok [[98, 32, 99]] := by
    rw [wordsL_quote [34, 98, 32, 99, 34, 32, 35, 32, 120] 8 4 (by simp) (by decide) q1]
    show (if ((unq [34, 98, 32, 99, 34]).isSome && endsL [32, 35, 32, 120]) = true then addW [(unq [34, 98, 32, 99, 34]).getD []] (wordsL [32, 35, 32, 120] 13) else .error 8) = _
    rw [u1, e5]; rfl
  have e3 : wordsL [97, 32, 34, 98, 32, 99, 34, 32, 35, 32, 120] 6 = .ok [[97], [98, 32, 99]] := by
    rw [wordsL_plain _ _ (by simp) (by decide) (by decide) (by decide)]
    show (if plainL (List.take (1 + blk [32, 34, 98, 32, 99, 34, 32, 35, 32, 120]) [97, 32, 34, 98, 32, 99, 34, 32, 35, 32, 120]) = true then addW [List.take (1 + blk [32, 34, 98, 32, 99, 34, 32, 35, 32, 120]) [97, 32, 34, 98, 32, 99, 34, 32, 35, 32, 120]] (wordsL (List.drop (1 + blk [32, 34, 98, 32, 99, 34, 32, 35, 32, 120]) [97, 32, 34, 98, 32, 99, 34, 32, 35, 32, 120]) (6 + (1 + blk [32, 34, 98, 32, 99, 34, 32, 35, 32, 120]))) else .error 6) = _
    rw [b2]
    show (if plainL [97] = true then addW [[97]] (wordsL [32, 34, 98, 32, 99, 34, 32, 35, 32, 120] 7) else .error 6) = _
    rw [p2, if_pos rfl, wordsL_blank _ _ (by simp) (by decide)]
    show addW [[97]] (wordsL [34, 98, 32, 99, 34, 32, 35, 32, 120] 8) = _
    rw [e4]; rfl
  rw [wordsL_plain _ _ (by simp) (by decide) (by decide) (by decide)]
  show (if plainL (List.take (1 + blk [111, 118, 101, 32, 32, 97, 32, 34, 98, 32, 99, 34, 32, 35, 32, 120]) [109, 111, 118, 101, 32, 32, 97, 32, 34, 98, 32, 99, 34, 32, 35, 32, 120]) = true then addW [List.take (1 + blk [111, 118, 101, 32, 32, 97, 32, 34, 98, 32, 99, 34, 32, 35, 32, 120]) [109, 111, 118, 101, 32, 32, 97, 32, 34, 98, 32, 99, 34, 32, 35, 32, 120]] (wordsL (List.drop (1 + blk [111, 118, 101, 32, 32, 97, 32, 34, 98, 32, 99, 34, 32, 35, 32, 120]) [109, 111, 118, 101, 32, 32, 97, 32, 34, 98, 32, 99, 34, 32, 35, 32, 120]) (0 + (1 + blk [111, 118, 101, 32, 32, 97, 32, 34, 98, 32, 99, 34, 32, 35, 32, 120]))) else .error 0) = _
  rw [b1]
  show (if plainL [109, 111, 118, 101] = true then addW [[109, 111, 118, 101]] (wordsL [32, 32, 97, 32, 34, 98, 32, 99, 34, 32, 35, 32, 120] 4) else .error 0) = _
  rw [p1, if_pos rfl, wordsL_blank _ _ (by simp) (by decide)]
  show addW [[109, 111, 118, 101]] (wordsL [32, 97, 32, 34, 98, 32, 99, 34, 32, 35, 32, 120] 5) = _
  rw [wordsL_blank _ _ (by simp) (by decide)]
  show addW [[109, 111, 118, 101]] (wordsL [97, 32, 34, 98, 32, 99, 34, 32, 35, 32, 120] 6) = _
  rw [e3]; rfl
theorem wake_quote : quoteL [9, 255] = [34, 92, 120, 48, 57, 92, 120, 102, 102, 34] := by
  have d1 : dec [9, 255] = (9, 1) := dec_ascii 9 _ (by decide)
  have d2 : dec [255] = (65533, 1) := by decide +kernel
  have q2 : qs [255] = esc 255 := by
    rw [qs_go _ (by simp)]
    have : qpiece [255] = esc 255 := by
      unfold qpiece
      rw [brk_iff _ (by simp), d2]; rfl
    rw [this, d2]
    show esc 255 ++ qs [] = _
    rw [qs_nil, List.append_nil]
  have q1 : qs [9, 255] = esc 9 ++ esc 255 := by
    rw [qs_go _ (by simp)]
    have : qpiece [9, 255] = esc 9 := by
      unfold qpiece
      rw [brk_iff _ (by simp), d1]; rfl
    rw [this, d1]
    show esc 9 ++ qs [255] = _
    rw [q2]
  unfold quoteL
  rw [q1]; rfl

theorem words_wake {w W : World} {e : Ending} (h : (∃ ws v, wordsL (bs ⟨#[109, 111, 118, 101, 32, 32, 97, 32, 34, 98, 32, 99, 34, 32, 35, 32, 120]⟩) 0 = .ok ws ∧ e = .returned (.tuple #[v, .agg #[.int .i64 0, .int .i64 0]]) ∧ W.ownsRow (w.heap.size + 1) 9 1 v ws.length (wcells ws)) ∨
    (∃ p : Nat, wordsL (bs ⟨#[109, 111, 118, 101, 32, 32, 97, 32, 34, 98, 32, 99, 34, 32, 35, 32, 120]⟩) 0 = .error p ∧ e = .returned (.tuple #[.slice none 0 0, .agg #[.int .i64 150, .int .i64 (p : Int)]]))) :
    ∃ g c, e = .returned (.tuple #[.slice (some ⟨g, 0, none⟩) 3 c, .agg #[.int .i64 0, .int .i64 0]]) ∧ W.cell? ⟨g, 2, none⟩ = some (.string (mk [98, 32, 99])) := by
  have hw : wordsL (bs ⟨#[109, 111, 118, 101, 32, 32, 97, 32, 34, 98, 32, 99, 34, 32, 35, 32, 120]⟩) 0 = .ok [[109, 111, 118, 101], [97], [98, 32, 99]] := wake_words
  rcases h with ⟨ws, v, hr, rfl, hrow⟩ | ⟨p, hr, _⟩
  · rw [hw] at hr
    cases hr
    rcases hrow.2 with ⟨_, h0⟩ | ⟨g, cap, cur, rfl, _, hg, hc, _, _, ht⟩
    · cases h0
    · refine ⟨g, cap, rfl, ?_⟩
      have ht' : cur.toList.take 3 = wcells [[109, 111, 118, 101], [97], [98, 32, 99]] := ht
      have e : (cur.toList.take 3)[2]? = some (.string (mk [98, 32, 99])) := by rw [ht']; rfl
      rw [List.getElem?_take_of_lt (by omega)] at e
      simp only [World.cell?, hg]
      rw [← Array.getElem?_toList]; exact e
  · rw [hw] at hr; cases hr
theorem box_facts (w : World) {g : Nat} {z : Value} (h : w.cell? ⟨g, 2, none⟩ = some z) : Box2 (w.alloc (.cells #[.int .i64 0, .int .i64 0] 48)) w.heap.size (.int .i64 0) (.int .i64 0) ∧ (w.alloc (.cells #[.int .i64 0, .int .i64 0] 48)).cell? ⟨g, 2, none⟩ = some z :=
  ⟨Box2.new _ _ _, (World.grownBy_alloc w _ none).cell h (by simp)⟩

end Go.Proofs.YtggnglgehobglaaGreatDoor

/- What the layer reads when it does anything. -/
namespace Go.Proofs.YtggnglgehobglaaGreatDoor

def utext : List UInt8 := [107, 101, 101, 112, 32, 115, 114, 99, 10, 109, 111, 118, 101, 32, 34, 97, 32, 98, 34, 32, 47, 32, 35, 32, 110, 111, 10, 10, 100, 114, 111, 112, 32, 115, 114, 99, 47, 120, 10]
theorem pl_keep : plainL [107, 101, 101, 112] = true := by
  unfold plainL
  rw [plainF_cons 107 _ (by decide) (by decide) (by decide) (by decide), plainF_cons 101 _ (by decide) (by decide) (by decide) (by decide), plainF_cons 101 _ (by decide) (by decide) (by decide) (by decide), plainF_cons 112 _ (by decide) (by decide) (by decide) (by decide), plainF_nil]; rfl
theorem pl_drop : plainL [100, 114, 111, 112] = true := by
  unfold plainL
  rw [plainF_cons 100 _ (by decide) (by decide) (by decide) (by decide), plainF_cons 114 _ (by decide) (by decide) (by decide) (by decide), plainF_cons 111 _ (by decide) (by decide) (by decide) (by decide), plainF_cons 112 _ (by decide) (by decide) (by decide) (by decide), plainF_nil]; rfl
theorem pl_move : plainL [109, 111, 118, 101] = true := by
  unfold plainL
  rw [plainF_cons 109 _ (by decide) (by decide) (by decide) (by decide), plainF_cons 111 _ (by decide) (by decide) (by decide) (by decide), plainF_cons 118 _ (by decide) (by decide) (by decide) (by decide), plainF_cons 101 _ (by decide) (by decide) (by decide) (by decide), plainF_nil]; rfl
theorem pl_src : plainL [115, 114, 99] = true := by
  unfold plainL
  rw [plainF_cons 115 _ (by decide) (by decide) (by decide) (by decide), plainF_cons 114 _ (by decide) (by decide) (by decide) (by decide), plainF_cons 99 _ (by decide) (by decide) (by decide) (by decide), plainF_nil]; rfl
theorem pl_srcx : plainL [115, 114, 99, 47, 120] = true := by
  unfold plainL
  rw [plainF_cons 115 _ (by decide) (by decide) (by decide) (by decide), plainF_cons 114 _ (by decide) (by decide) (by decide) (by decide), plainF_cons 99 _ (by decide) (by decide) (by decide) (by decide), plainF_cons 47 _ (by decide) (by decide) (by decide) (by decide), plainF_cons 120 _ (by decide) (by decide) (by decide) (by decide), plainF_nil]; rfl
theorem pl_root : plainL [47] = true := by
  unfold plainL
  rw [plainF_cons 47 _ (by decide) (by decide) (by decide) (by decide), plainF_nil]; rfl
theorem isP_src : isP [115, 114, 99] = true := isP_of _ (by decide) (by decide) (fun n hn => by
  have e : parts [115, 114, 99] = [[115, 114, 99]] := by decide
  rw [e] at hn
  simp at hn
  subst hn; exact okName_ascii _ (by decide) (by decide) (by decide))
theorem isP_srcx : isP [115, 114, 99, 47, 120] = true := isP_of _ (by decide) (by decide) (fun n hn => by
  have e : parts [115, 114, 99, 47, 120] = [[115, 114, 99], [120]] := by decide
  rw [e] at hn
  simp at hn
  rcases hn with rfl | rfl <;> exact okName_ascii _ (by decide) (by decide) (by decide))
theorem isP_a_b : isP [97, 32, 98] = true := isP_of _ (by decide) (by decide) (fun n hn => by
  have e : parts [97, 32, 98] = [[97, 32, 98]] := by decide
  rw [e] at hn
  simp at hn
  subst hn; exact okName_ascii _ (by decide) (by decide) (by decide))
theorem q_a_b : quoteL [97, 32, 98] = [34, 97, 32, 98, 34] := by
  unfold quoteL
  rw [qs_cons 97 _ (by decide) (by decide) (by decide) (by decide), qs_cons 32 _ (by decide) (by decide) (by decide) (by decide), qs_cons 98 _ (by decide) (by decide) (by decide) (by decide), qs_nil]; rfl
theorem wl_keep : wordL [107, 101, 101, 112] = [107, 101, 101, 112] := by unfold wordL; rw [if_pos pl_keep]
theorem wl_drop : wordL [100, 114, 111, 112] = [100, 114, 111, 112] := by unfold wordL; rw [if_pos pl_drop]
theorem wl_move : wordL [109, 111, 118, 101] = [109, 111, 118, 101] := by unfold wordL; rw [if_pos pl_move]
theorem wl_src : wordL [115, 114, 99] = [115, 114, 99] := by unfold wordL; rw [if_pos pl_src]
theorem wl_srcx : wordL [115, 114, 99, 47, 120] = [115, 114, 99, 47, 120] := by unfold wordL; rw [if_pos pl_srcx]
theorem wl_root : wordL [47] = [47] := by unfold wordL; rw [if_pos pl_root]
theorem u_one : lineG [107, 101, 101, 112, 32, 115, 114, 99] = .ok (some (1, [115, 114, 99], [])) := by
  have e : lineR (1, [115, 114, 99], []) = [107, 101, 101, 112, 32, 115, 114, 99] := by
    show wordL [107, 101, 101, 112] ++ (32 :: wordL [115, 114, 99] ++ []) = _
    rw [wl_keep, wl_src]; rfl
  rw [← e]
  exact lineG_line (by unfold okR; rw [isP_src, isP_nil]; rfl)
theorem u_four : lineG [100, 114, 111, 112, 32, 115, 114, 99, 47, 120] = .ok (some (2, [115, 114, 99, 47, 120], [])) := by
  have e : lineR (2, [115, 114, 99, 47, 120], []) = [100, 114, 111, 112, 32, 115, 114, 99, 47, 120] := by
    show wordL [100, 114, 111, 112] ++ (32 :: wordL [115, 114, 99, 47, 120] ++ []) = _
    rw [wl_drop, wl_srcx]; rfl
  rw [← e]
  exact lineG_line (by unfold okR; rw [isP_srcx, isP_nil]; rfl)
theorem u_two : lineG [109, 111, 118, 101, 32, 34, 97, 32, 98, 34, 32, 47, 32, 35, 32, 110, 111] = .ok (some (3, [97, 32, 98], [])) := by
  have h1 := fun p => wordsL_word [109, 111, 118, 101] [32, 34, 97, 32, 98, 34, 32, 47, 32, 35, 32, 110, 111] p (by decide)
  simp only [wl_move] at h1
  have h2 := fun p => wordsL_blank [32, 34, 97, 32, 98, 34, 32, 47, 32, 35, 32, 110, 111] p (by decide) (by decide)
  have h3 := fun p => wordsL_quoted [97, 32, 98] [32, 47, 32, 35, 32, 110, 111] p (by decide)
  simp only [q_a_b] at h3
  have h4 := fun p => wordsL_blank [32, 47, 32, 35, 32, 110, 111] p (by decide) (by decide)
  have h5 := fun p => wordsL_word [47] [32, 35, 32, 110, 111] p (by decide)
  simp only [wl_root] at h5
  have h6 := fun p => wordsL_blank [32, 35, 32, 110, 111] p (by decide) (by decide)
  have h7 := fun p => wordsL_rem [35, 32, 110, 111] p (by decide) (by decide)
  have hw : wordsL [109, 111, 118, 101, 32, 34, 97, 32, 98, 34, 32, 47, 32, 35, 32, 110, 111] 0 = .ok [[109, 111, 118, 101], [97, 32, 98], [47]] := by
    show wordsL ([109, 111, 118, 101] ++ [32, 34, 97, 32, 98, 34, 32, 47, 32, 35, 32, 110, 111]) 0 = _
    rw [h1, h2]
    show addW _ (wordsL ([34, 97, 32, 98, 34] ++ [32, 47, 32, 35, 32, 110, 111]) _) = _
    rw [h3, h4]
    show addW _ (addW _ (wordsL ([47] ++ [32, 35, 32, 110, 111]) _)) = _
    rw [h5, h6]
    show addW _ (addW _ (addW _ (wordsL [35, 32, 110, 111] _))) = _
    rw [h7]; rfl
  exact lineG_ws (r := (3, [97, 32, 98], [])) hw (by unfold okR; rw [isP_a_b, isP_nil]; rfl)
theorem u_three : lineG [] = .ok none := by unfold lineG; rw [wordsL_nil]
theorem u_wake : readT utext = .ok [(1, [115, 114, 99], []), (3, [97, 32, 98], []), (2, [115, 114, 99, 47, 120], [])] := by
  have hl : linesL utext = [[107, 101, 101, 112, 32, 115, 114, 99], [109, 111, 118, 101, 32, 34, 97, 32, 98, 34, 32, 47, 32, 35, 32, 110, 111], [], [100, 114, 111, 112, 32, 115, 114, 99, 47, 120]] := by decide
  unfold readT
  rw [if_neg (by decide), hl]
  simp only [readG, u_one, u_two, u_three, u_four]
  rfl
end Go.Proofs.YtggnglgehobglaaGreatDoor

/- The law's own functions: same, wakes. -/
namespace Go.Proofs.YtggnglgehobglaaGreatDoor
open Go.RowKit Go.Shelf

attribute [local go_sem] Oper.semAt_some

/-- what Read answers where it is right -/
theorem read_ok {s : ByteArray} {w W : World} {e : Ending} {rs : List Ru} (hr : readT (bs s) = .ok rs) (h : RPost s w e W) : ∃ ad cp, e = .returned (.tuple #[.slice ad rs.length cp, .agg #[.int .i64 0, .int .i64 0]]) ∧ Rus W ad rs.length rs ∧ rs.length ≤ cp ∧ (ad = none → rs.length = 0 ∧ cp = 0) ∧ Below w.heap.size w W := by
  obtain ⟨h | h, hB⟩ := h
  · obtain ⟨rs', v, h1, h2, h3⟩ := h
    rw [hr] at h1
    cases h1
    obtain ⟨ad, cp, rfl, hc, hn⟩ := row_shapeR h3
    exact ⟨ad, cp, h2, own_rus h3 rfl, hc, hn, hB⟩
  · obtain ⟨er, p, h1, _⟩ := h
    rw [hr] at h1; cases h1
theorem read_bad {s : ByteArray} {w W : World} {e : Ending} {er p : Nat} (hr : readT (bs s) = .error (er, p)) (h : RPost s w e W) : e = .returned (.tuple #[.slice none 0 0, .agg #[.int .i64 (er : Int), .int .i64 (p : Int)]]) ∧ Below w.heap.size w W := by
  obtain ⟨h | h, hB⟩ := h
  · obtain ⟨rs', v, h1, _⟩ := h
    rw [hr] at h1; cases h1
  · obtain ⟨er', p', h1, h2⟩ := h
    rw [hr] at h1; cases h1
    exact ⟨h2, hB⟩

end Go.Proofs.YtggnglgehobglaaGreatDoor

/- slices.Clone at rules and Rules: a row of one's own. -/
namespace Go.Proofs.YtggnglgehobglaaGreatDoor
open Go.RowKit Go.Shelf Go.Maps

attribute [local go_sem] Oper.semAt_some

set_option maxRecDepth 100000 in
theorem rclone_own (w : World) (a : Option Addr) (n c : Nat) (F : List Ru) (h : Rus w a n F) (hnil : a = none → n = 0 ∧ c = 0) (hn : n ≤ 1000) :
    Calls Tryz.prog 32 #[.slice a n c] w fun e w' => ∃ ad c', e = .returned (.slice ad n c') ∧ w'.ownsRow w.heap.size 31 3 (.slice ad n c') n (ruCells F) ∧ Below w.heap.size w w' := by
  have q22 : ∀ (w : World) (a : Option Addr) (n c n' c' : Nat), (binOp .eql 34 (.slice a n c) (.slice none n' c')).run Tryz.prog w = .ok (.bool a.isNone) w := fun w a n c n' c' => Lib.run_eql_slice_nil w _ _ a n c n' c' Tryz.underlying34
  cases a with
  | none =>
    obtain ⟨rfl, rfl⟩ := hnil rfl
    have HR : Hid (Rus w none 0 F) := h
    clear h hnil
    go_enter Tryz.func32, Tryz.ntmps32
    go_wp2
    go_ret
    have hF : F = [] := List.eq_nil_of_length_eq_zero HR.out.1
    subst hF
    exact ⟨none, 0, rfl, ⟨rfl, .inl ⟨rfl, rfl⟩⟩, Below.refl _ _⟩
  | some ad0 =>
    have HR : Hid (Rus w (some ad0) n F) := h
    clear h hnil
    go_enter Tryz.func32, Tryz.ntmps32
    have H1 : Hid ((w.alloc (.cells #[] 31)).ownsRow w.heap.size 31 3 (.slice (some ⟨w.heap.size, 0, none⟩) 0 0) 0 (ruCells []) ∧ Rus (w.alloc (.cells #[] 31)) (some ad0) n F ∧ Below w.heap.size w (w.alloc (.cells #[] 31))) := by
      have hB : Below w.heap.size w (w.alloc (.cells #[] 31)) := (Below.refl _ w).alloc (Nat.le_refl _) _
      exact ⟨⟨rfl, .inr ⟨w.heap.size, 0, #[], rfl, Nat.le_refl _, World.alloc_heap_new w _, Nat.le_refl _, by unfold maxLen; omega, rfl, rfl⟩⟩, HR.out.kept hB, hB⟩
    clear HR
    go_wp2_with (at_builtin; refine wpList_appR rfl _ _ rfl w.heap.size 0 n c _ [] F (some ad0) rfl rfl H1.out.1 H1.out.2.1 (fun h => by cases h) (by omega) H1.out.2.2.size ?_; intro ad' c' w2 hc' hown hB2; have H2 : Hid (w2.ownsRow w.heap.size 31 3 (.slice ad' n c') n (ruCells F) ∧ Below w.heap.size w w2) := by { rw [Nat.zero_add] at hown; exact ⟨hown, H1.out.2.2.trans hB2⟩ }; clear hown hB2 hc'; rw [Nat.zero_add])
    go_ret
    exact ⟨ad', c', rfl, H2.out.1, H2.out.2⟩
theorem rules_own (w : World) (m : Nat) (F : List Ru) (hM : MpAt w m F) :
    Calls Tryz.prog 12 #[.pointer (some ⟨m, 0, none⟩)] w fun e w' => ∃ ad c', e = .returned (.slice ad F.length c') ∧ w'.ownsRow w.heap.size 31 3 (.slice ad F.length c') F.length (ruCells F) ∧ Below w.heap.size w w' := by
  obtain ⟨a, n, c, b, c0, c1, h1, h2, h3, h4⟩ := hM.ex
  have hcl := rclone_own w a n c F h1 h4.2 h4.1
  rw [h1.1]
  clear hM h1 h2 h3 h4 c1
  go_enter Tryz.func12, Tryz.ntmps12
  go_wp2_with fail
  refine hcl.mono ?_
  clear hcl
  rintro e w1 ⟨ad, c', rfl, k1, hB1⟩
  have H1 : Hid (w1.ownsRow w.heap.size 31 3 (.slice ad n c') n (ruCells F) ∧ Below w.heap.size w w1) := ⟨k1, hB1⟩
  clear k1 hB1
  go_wp2
  go_ret
  exact ⟨ad, c', rfl, H1.out.1, H1.out.2⟩
end Go.Proofs.YtggnglgehobglaaGreatDoor
