import Derived.Test.YtdchmmdndgbllaaDoorX20
import Derived.Test.YtdchmmdndgbllaaDoorX29
import Derived.Test.YtdchmmdndgbllaaDoorX26
/- The walk of wakes. -/
namespace Go.Proofs.YtdchmmdndgbllaaDoor
open Go.RowKit

theorem plainF_cons (c : UInt8) (t : List UInt8) (h1 : 33 ≤ c.toNat) (h2 : c.toNat ≤ 126) (h3 : c ≠ 34) (h4 : c ≠ 92) : plainF (c :: t) = plainF t := by
  have hd := dec_ascii c t (by omega)
  have hb : badw (c :: t) = false := by
    unfold badw
    rw [brk_iff _ (by simp), hd]
    have e1 : c.toNat ≠ 34 := fun e => h3 (UInt8.toNat_inj.1 e)
    have e2 : c.toNat ≠ 92 := fun e => h4 (UInt8.toNat_inj.1 e)
    simp [ctl, e1, e2]; omega
  rw [plainF_go _ (by simp), hb, hd]; rfl
theorem qs_cons (c : UInt8) (t : List UInt8) (h1 : 32 ≤ c.toNat) (h2 : c.toNat ≤ 126) (h3 : c ≠ 34) (h4 : c ≠ 92) : qs (c :: t) = c :: qs t := by
  have hd := dec_ascii c t (by omega)
  have e1 : c.toNat ≠ 34 := fun e => h3 (UInt8.toNat_inj.1 e)
  have e2 : c.toNat ≠ 92 := fun e => h4 (UInt8.toNat_inj.1 e)
  have hp : qpiece (c :: t) = [c] := by
    unfold qpiece
    rw [brk_iff _ (by simp), hd]
    simp only
    rw [if_neg (by omega), if_neg (by omega), if_neg]
    · rfl
    · simp [ctl]; omega
  rw [qs_go _ (by simp), hp, hd]; rfl

def wakeL : List UInt8 := [109, 111, 118, 101, 32, 32, 97, 32, 34, 98, 32, 99, 34, 32, 35, 32, 120]
theorem wake_q : quoteL [98, 32, 99] = [34, 98, 32, 99, 34] := by
  unfold quoteL
  rw [qs_cons 98 _ (by decide) (by decide) (by decide) (by decide), qs_cons 32 _ (by decide) (by decide) (by decide) (by decide), qs_cons 99 _ (by decide) (by decide) (by decide) (by decide), qs_nil]; rfl
theorem wake_words : wordsL wakeL 0 = .ok [[109, 111, 118, 101], [97], [98, 32, 99]] := by
  unfold wakeL
  have p1 : plainL [109, 111, 118, 101] = true := by
    unfold plainL
    rw [plainF_cons 109 _ (by decide) (by decide) (by decide) (by decide), plainF_cons 111 _ (by decide) (by decide) (by decide) (by decide), plainF_cons 118 _ (by decide) (by decide) (by decide) (by decide), plainF_cons 101 _ (by decide) (by decide) (by decide) (by decide), plainF_nil]; rfl
  have p2 : plainL [97] = true := by
    unfold plainL
    rw [plainF_cons 97 _ (by decide) (by decide) (by decide) (by decide), plainF_nil]; rfl
  have q1 : qEnd [98, 32, 99, 34, 32, 35, 32, 120] = some 4 := by
    rw [qEnd_go _ (by simp) (by decide) (by decide)]
    show (qEnd [32, 99, 34, 32, 35, 32, 120]).map _ = _
    rw [qEnd_go _ (by simp) (by decide) (by decide)]
    show ((qEnd [99, 34, 32, 35, 32, 120]).map _).map _ = _
    rw [qEnd_go _ (by simp) (by decide) (by decide)]
    show (((qEnd [34, 32, 35, 32, 120]).map _).map _).map _ = _
    rw [qEnd_end _ (by simp) (by decide)]; rfl
  have b1 : blk [111, 118, 101, 32, 32, 97, 32, 34, 98, 32, 99, 34, 32, 35, 32, 120] = 3 := by decide
  have b2 : blk [32, 34, 98, 32, 99, 34, 32, 35, 32, 120] = 0 := by decide
  have u1 : unq [34, 98, 32, 99, 34] = some [98, 32, 99] := by rw [← wake_q]; exact unq_quote _
  have e5 : wordsL [32, 35, 32, 120] 13 = .ok [] := by
    rw [wordsL_blank _ _ (by simp) (by decide)]
    show wordsL [35, 32, 120] 14 = _
    rw [wordsL_rem _ _ (by simp) (by decide)]
  have e4 : wordsL [34, 98, 32, 99, 34, 32, 35, 32, 120] 8 = .ok [[98, 32, 99]] := by
    rw [wordsL_quote [34, 98, 32, 99, 34, 32, 35, 32, 120] 8 4 (by simp) (by decide) q1]
    show (if ((unq [34, 98, 32, 99, 34]).isSome && endsL [32, 35, 32, 120]) = true then addW [(unq [34, 98, 32, 99, 34]).getD []] (wordsL [32, 35, 32, 120] 13) else .error 8) = _
    rw [u1, e5]; rfl
  have e3 : wordsL [97, 32, 34, 98, 32, 99, 34, 32, 35, 32, 120] 6 = .ok [[97], [98, 32, 99]] := by
    rw [wordsL_plain _ _ (by simp) (by decide) (by decide) (by decide)]
    show (if plainL (List.take (1 + blk [32, 34, 98, 32, 99, 34, 32, 35, 32, 120]) [97, 32, 34, 98, 32, 99, 34, 32, 35, 32, 120]) = true then addW [List.take (1 + blk [32, 34, 98, 32, 99, 34, 32, 35, 32, 120]) [97, 32, 34, 98, 32, 99, 34, 32, 35, 32, 120]] (wordsL (List.drop (1 + blk [32, 34, 98, 32, 99, 34, 32, 35, 32, 120]) [97, 32, 34, 98, 32, 99, 34, 32, 35, 32, 120]) (6 + (1 + blk [32, 34, 98, 32, 99, 34, 32, 35, 32, 120]))) else .error 6) = _
    rw [b2]
    show (if plainL [97] = true then addW [[97]] (wordsL [32, 34, 98, 32, 99, 34, 32, 35, 32, 120] 7) else .error 6) = _
    rw [p2, if_pos rfl, wordsL_blank _ _ (by simp) (by decide)]
    show addW [[97]] (wordsL [34, 98, 32, 99, 34, 32, 35, 32, 120] 8) = _
    rw [e4]; rfl
  rw [wordsL_plain _ _ (by simp) (by decide) (by decide) (by decide)]
  show (if plainL (List.take (1 + blk [111, 118, 101, 32, 32, 97, 32, 34, 98, 32, 99, 34, 32, 35, 32, 120]) [109, 111, 118, 101, 32, 32, 97, 32, 34, 98, 32, 99, 34, 32, 35, 32, 120]) = true then addW [List.take (1 + blk [111, 118, 101, 32, 32, 97, 32, 34, 98, 32, 99, 34, 32, 35, 32, 120]) [109, 111, 118, 101, 32, 32, 97, 32, 34, 98, 32, 99, 34, 32, 35, 32, 120]] (wordsL (List.drop (1 + blk [111, 118, 101, 32, 32, 97, 32, 34, 98, 32, 99, 34, 32, 35, 32, 120]) [109, 111, 118, 101, 32, 32, 97, 32, 34, 98, 32, 99, 34, 32, 35, 32, 120]) (0 + (1 + blk [111, 118, 101, 32, 32, 97, 32, 34, 98, 32, 99, 34, 32, 35, 32, 120]))) else .error 0) = _
  rw [b1]
  show (if plainL [109, 111, 118, 101] = true then addW [[109, 111, 118, 101]] (wordsL [32, 32, 97, 32, 34, 98, 32, 99, 34, 32, 35, 32, 120] 4) else .error 0) = _
  rw [p1, if_pos rfl, wordsL_blank _ _ (by simp) (by decide)]
  show addW [[109, 111, 118, 101]] (wordsL [32, 97, 32, 34, 98, 32, 99, 34, 32, 35, 32, 120] 5) = _
  rw [wordsL_blank _ _ (by simp) (by decide)]
  show addW [[109, 111, 118, 101]] (wordsL [97, 32, 34, 98, 32, 99, 34, 32, 35, 32, 120] 6) = _
  rw [e3]; rfl
theorem wake_quote : quoteL [9, 255] = [34, 92, 120, 48, 57, 92, 120, 102, 102, 34] := by
  have d1 : dec [9, 255] = (9, 1) := dec_ascii 9 _ (by decide)
  have d2 : dec [255] = (65533, 1) := by decide +kernel
  have q2 : qs [255] = esc 255 := by
    rw [qs_go _ (by simp)]
    have : qpiece [255] = esc 255 := by
      unfold qpiece
      rw [brk_iff _ (by simp), d2]; rfl
    rw [this, d2]
    show esc 255 ++ qs [] = _
    rw [qs_nil, List.append_nil]
  have q1 : qs [9, 255] = esc 9 ++ esc 255 := by
    rw [qs_go _ (by simp)]
    have : qpiece [9, 255] = esc 9 := by
      unfold qpiece
      rw [brk_iff _ (by simp), d1]; rfl
    rw [this, d1]
    show esc 9 ++ qs [255] = _
    rw [q2]
  unfold quoteL
  rw [q1]; rfl

theorem words_wake {w W : World} {e : Ending} (h : (∃ ws v, wordsL (bs ⟨#[109, 111, 118, 101, 32, 32, 97, 32, 34, 98, 32, 99, 34, 32, 35, 32, 120]⟩) 0 = .ok ws ∧ e = .returned (.tuple #[v, .agg #[.int .i64 0, .int .i64 0]]) ∧ W.ownsRow (w.heap.size + 1) 9 1 v ws.length (wcells ws)) ∨
    (∃ p : Nat, wordsL (bs ⟨#[109, 111, 118, 101, 32, 32, 97, 32, 34, 98, 32, 99, 34, 32, 35, 32, 120]⟩) 0 = .error p ∧ e = .returned (.tuple #[.slice none 0 0, .agg #[.int .i64 150, .int .i64 (p : Int)]]))) :
    ∃ g c, e = .returned (.tuple #[.slice (some ⟨g, 0, none⟩) 3 c, .agg #[.int .i64 0, .int .i64 0]]) ∧ W.cell? ⟨g, 2, none⟩ = some (.string (mk [98, 32, 99])) := by
  have hw : wordsL (bs ⟨#[109, 111, 118, 101, 32, 32, 97, 32, 34, 98, 32, 99, 34, 32, 35, 32, 120]⟩) 0 = .ok [[109, 111, 118, 101], [97], [98, 32, 99]] := wake_words
  rcases h with ⟨ws, v, hr, rfl, hrow⟩ | ⟨p, hr, _⟩
  · rw [hw] at hr
    cases hr
    rcases hrow.2 with ⟨_, h0⟩ | ⟨g, cap, cur, rfl, _, hg, hc, _, _, ht⟩
    · cases h0
    · refine ⟨g, cap, rfl, ?_⟩
      have ht' : cur.toList.take 3 = wcells [[109, 111, 118, 101], [97], [98, 32, 99]] := ht
      have e : (cur.toList.take 3)[2]? = some (.string (mk [98, 32, 99])) := by rw [ht']; rfl
      rw [List.getElem?_take_of_lt (by omega)] at e
      simp only [World.cell?, hg]
      rw [← Array.getElem?_toList]; exact e
  · rw [hw] at hr; cases hr
theorem box_facts (w : World) {g : Nat} {z : Value} (h : w.cell? ⟨g, 2, none⟩ = some z) : Box2 (w.alloc (.cells #[.int .i64 0, .int .i64 0] 35)) w.heap.size (.int .i64 0) (.int .i64 0) ∧ (w.alloc (.cells #[.int .i64 0, .int .i64 0] 35)).cell? ⟨g, 2, none⟩ = some z :=
  ⟨Box2.new _ _ _, (World.grownBy_alloc w _ none).cell h (by simp)⟩

end Go.Proofs.YtdchmmdndgbllaaDoor

/- What the layer reads when it does anything. -/
namespace Go.Proofs.YtdchmmdndgbllaaDoor

def utext : List UInt8 := [107, 101, 101, 112, 32, 115, 114, 99, 10, 109, 111, 118, 101, 32, 34, 97, 32, 98, 34, 32, 47, 32, 35, 32, 110, 111, 10, 10, 100, 114, 111, 112, 32, 115, 114, 99, 47, 120, 10]
theorem pl_keep : plainL [107, 101, 101, 112] = true := by
  unfold plainL
  rw [plainF_cons 107 _ (by decide) (by decide) (by decide) (by decide), plainF_cons 101 _ (by decide) (by decide) (by decide) (by decide), plainF_cons 101 _ (by decide) (by decide) (by decide) (by decide), plainF_cons 112 _ (by decide) (by decide) (by decide) (by decide), plainF_nil]; rfl
theorem pl_drop : plainL [100, 114, 111, 112] = true := by
  unfold plainL
  rw [plainF_cons 100 _ (by decide) (by decide) (by decide) (by decide), plainF_cons 114 _ (by decide) (by decide) (by decide) (by decide), plainF_cons 111 _ (by decide) (by decide) (by decide) (by decide), plainF_cons 112 _ (by decide) (by decide) (by decide) (by decide), plainF_nil]; rfl
theorem pl_move : plainL [109, 111, 118, 101] = true := by
  unfold plainL
  rw [plainF_cons 109 _ (by decide) (by decide) (by decide) (by decide), plainF_cons 111 _ (by decide) (by decide) (by decide) (by decide), plainF_cons 118 _ (by decide) (by decide) (by decide) (by decide), plainF_cons 101 _ (by decide) (by decide) (by decide) (by decide), plainF_nil]; rfl
theorem pl_src : plainL [115, 114, 99] = true := by
  unfold plainL
  rw [plainF_cons 115 _ (by decide) (by decide) (by decide) (by decide), plainF_cons 114 _ (by decide) (by decide) (by decide) (by decide), plainF_cons 99 _ (by decide) (by decide) (by decide) (by decide), plainF_nil]; rfl
theorem pl_srcx : plainL [115, 114, 99, 47, 120] = true := by
  unfold plainL
  rw [plainF_cons 115 _ (by decide) (by decide) (by decide) (by decide), plainF_cons 114 _ (by decide) (by decide) (by decide) (by decide), plainF_cons 99 _ (by decide) (by decide) (by decide) (by decide), plainF_cons 47 _ (by decide) (by decide) (by decide) (by decide), plainF_cons 120 _ (by decide) (by decide) (by decide) (by decide), plainF_nil]; rfl
theorem pl_root : plainL [47] = true := by
  unfold plainL
  rw [plainF_cons 47 _ (by decide) (by decide) (by decide) (by decide), plainF_nil]; rfl
theorem isP_src : isP [115, 114, 99] = true := isP_of _ (by decide) (by decide) (fun n hn => by
  have e : parts [115, 114, 99] = [[115, 114, 99]] := by decide
  rw [e] at hn
  simp at hn
  subst hn; exact okName_ascii _ (by decide) (by decide) (by decide))
theorem isP_srcx : isP [115, 114, 99, 47, 120] = true := isP_of _ (by decide) (by decide) (fun n hn => by
  have e : parts [115, 114, 99, 47, 120] = [[115, 114, 99], [120]] := by decide
  rw [e] at hn
  simp at hn
  rcases hn with rfl | rfl <;> exact okName_ascii _ (by decide) (by decide) (by decide))
theorem isP_a_b : isP [97, 32, 98] = true := isP_of _ (by decide) (by decide) (fun n hn => by
  have e : parts [97, 32, 98] = [[97, 32, 98]] := by decide
  rw [e] at hn
  simp at hn
  subst hn; exact okName_ascii _ (by decide) (by decide) (by decide))
theorem q_a_b : quoteL [97, 32, 98] = [34, 97, 32, 98, 34] := by
  unfold quoteL
  rw [qs_cons 97 _ (by decide) (by decide) (by decide) (by decide), qs_cons 32 _ (by decide) (by decide) (by decide) (by decide), qs_cons 98 _ (by decide) (by decide) (by decide) (by decide), qs_nil]; rfl
theorem wl_keep : wordL [107, 101, 101, 112] = [107, 101, 101, 112] := by unfold wordL; rw [if_pos pl_keep]
theorem wl_drop : wordL [100, 114, 111, 112] = [100, 114, 111, 112] := by unfold wordL; rw [if_pos pl_drop]
theorem wl_move : wordL [109, 111, 118, 101] = [109, 111, 118, 101] := by unfold wordL; rw [if_pos pl_move]
theorem wl_src : wordL [115, 114, 99] = [115, 114, 99] := by unfold wordL; rw [if_pos pl_src]
theorem wl_srcx : wordL [115, 114, 99, 47, 120] = [115, 114, 99, 47, 120] := by unfold wordL; rw [if_pos pl_srcx]
theorem wl_root : wordL [47] = [47] := by unfold wordL; rw [if_pos pl_root]
theorem u_one : lineG [107, 101, 101, 112, 32, 115, 114, 99] = .ok (some (1, [115, 114, 99], [])) := by
  have e : lineR (1, [115, 114, 99], []) = [107, 101, 101, 112, 32, 115, 114, 99] := by
    show wordL [107, 101, 101, 112] ++ (32 :: wordL [115, 114, 99] ++ []) = _
    rw [wl_keep, wl_src]; rfl
  rw [← e]
  exact lineG_line (by unfold okR; rw [isP_src, isP_nil]; rfl)
theorem u_four : lineG [100, 114, 111, 112, 32, 115, 114, 99, 47, 120] = .ok (some (2, [115, 114, 99, 47, 120], [])) := by
  have e : lineR (2, [115, 114, 99, 47, 120], []) = [100, 114, 111, 112, 32, 115, 114, 99, 47, 120] := by
    show wordL [100, 114, 111, 112] ++ (32 :: wordL [115, 114, 99, 47, 120] ++ []) = _
    rw [wl_drop, wl_srcx]; rfl
  rw [← e]
  exact lineG_line (by unfold okR; rw [isP_srcx, isP_nil]; rfl)
theorem u_two : lineG [109, 111, 118, 101, 32, 34, 97, 32, 98, 34, 32, 47, 32, 35, 32, 110, 111] = .ok (some (3, [97, 32, 98], [])) := by
  have h1 := fun p => wordsL_word [109, 111, 118, 101] [32, 34, 97, 32, 98, 34, 32, 47, 32, 35, 32, 110, 111] p (by decide)
  simp only [wl_move] at h1
  have h2 := fun p => wordsL_blank [32, 34, 97, 32, 98, 34, 32, 47, 32, 35, 32, 110, 111] p (by decide) (by decide)
  have h3 := fun p => wordsL_quoted [97, 32, 98] [32, 47, 32, 35, 32, 110, 111] p (by decide)
  simp only [q_a_b] at h3
  have h4 := fun p => wordsL_blank [32, 47, 32, 35, 32, 110, 111] p (by decide) (by decide)
  have h5 := fun p => wordsL_word [47] [32, 35, 32, 110, 111] p (by decide)
  simp only [wl_root] at h5
  have h6 := fun p => wordsL_blank [32, 35, 32, 110, 111] p (by decide) (by decide)
  have h7 := fun p => wordsL_rem [35, 32, 110, 111] p (by decide) (by decide)
  have hw : wordsL [109, 111, 118, 101, 32, 34, 97, 32, 98, 34, 32, 47, 32, 35, 32, 110, 111] 0 = .ok [[109, 111, 118, 101], [97, 32, 98], [47]] := by
    show wordsL ([109, 111, 118, 101] ++ [32, 34, 97, 32, 98, 34, 32, 47, 32, 35, 32, 110, 111]) 0 = _
    rw [h1, h2]
    show addW _ (wordsL ([34, 97, 32, 98, 34] ++ [32, 47, 32, 35, 32, 110, 111]) _) = _
    rw [h3, h4]
    show addW _ (addW _ (wordsL ([47] ++ [32, 35, 32, 110, 111]) _)) = _
    rw [h5, h6]
    show addW _ (addW _ (addW _ (wordsL [35, 32, 110, 111] _))) = _
    rw [h7]; rfl
  exact lineG_ws (r := (3, [97, 32, 98], [])) hw (by unfold okR; rw [isP_a_b, isP_nil]; rfl)
theorem u_three : lineG [] = .ok none := by unfold lineG; rw [wordsL_nil]
theorem u_wake : readT utext = .ok [(1, [115, 114, 99], []), (3, [97, 32, 98], []), (2, [115, 114, 99, 47, 120], [])] := by
  have hl : linesL utext = [[107, 101, 101, 112, 32, 115, 114, 99], [109, 111, 118, 101, 32, 34, 97, 32, 98, 34, 32, 47, 32, 35, 32, 110, 111], [], [100, 114, 111, 112, 32, 115, 114, 99, 47, 120]] := by decide
  unfold readT
  rw [if_neg (by decide), hl]
  simp only [readG, u_one, u_two, u_three, u_four]
  rfl
end Go.Proofs.YtdchmmdndgbllaaDoor
