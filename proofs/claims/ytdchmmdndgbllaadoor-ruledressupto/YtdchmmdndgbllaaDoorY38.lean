import Derived.Test.YtdchmmdndgbllaaDoorY09
import Derived.Test.YtdchmmdndgbllaaDoorY37
/- What the layer reads when it does anything. -/
namespace Go.Proofs.YtdchmmdndgbllaaDoor

def utext : List UInt8 := [107, 101, 101, 112, 32, 115, 114, 99, 10, 109, 111, 118, 101, 32, 34, 97, 32, 98, 34, 32, 47, 32, 35, 32, 110, 111, 10, 10, 100, 114, 111, 112, 32, 115, 114, 99, 47, 120, 10]
theorem pl_keep : plainL [107, 101, 101, 112] = true := by
  unfold plainL
  rw [plainF_cons 107 _ (by decide) (by decide) (by decide) (by decide), plainF_cons 101 _ (by decide) (by decide) (by decide) (by decide), plainF_cons 101 _ (by decide) (by decide) (by decide) (by decide), plainF_cons 112 _ (by decide) (by decide) (by decide) (by decide), plainF_nil]; rfl
theorem pl_drop : plainL [100, 114, 111, 112] = true := by
  unfold plainL
  rw [plainF_cons 100 _ (by decide) (by decide) (by decide) (by decide), plainF_cons 114 _ (by decide) (by decide) (by decide) (by decide), plainF_cons 111 _ (by decide) (by decide) (by decide) (by decide), plainF_cons 112 _ (by decide) (by decide) (by decide) (by decide), plainF_nil]; rfl
theorem pl_move : plainL [109, 111, 118, 101] = true := by
  unfold plainL
  rw [plainF_cons 109 _ (by decide) (by decide) (by decide) (by decide), plainF_cons 111 _ (by decide) (by decide) (by decide) (by decide), plainF_cons 118 _ (by decide) (by decide) (by decide) (by decide), plainF_cons 101 _ (by decide) (by decide) (by decide) (by decide), plainF_nil]; rfl
theorem pl_src : plainL [115, 114, 99] = true := by
  unfold plainL
  rw [plainF_cons 115 _ (by decide) (by decide) (by decide) (by decide), plainF_cons 114 _ (by decide) (by decide) (by decide) (by decide), plainF_cons 99 _ (by decide) (by decide) (by decide) (by decide), plainF_nil]; rfl
theorem pl_srcx : plainL [115, 114, 99, 47, 120] = true := by
  unfold plainL
  rw [plainF_cons 115 _ (by decide) (by decide) (by decide) (by decide), plainF_cons 114 _ (by decide) (by decide) (by decide) (by decide), plainF_cons 99 _ (by decide) (by decide) (by decide) (by decide), plainF_cons 47 _ (by decide) (by decide) (by decide) (by decide), plainF_cons 120 _ (by decide) (by decide) (by decide) (by decide), plainF_nil]; rfl
theorem pl_root : plainL [47] = true := by
  unfold plainL
  rw [plainF_cons 47 _ (by decide) (by decide) (by decide) (by decide), plainF_nil]; rfl
theorem isP_src : isP [115, 114, 99] = true := isP_of _ (by decide) (by decide) (fun n hn => by
  have e : parts [115, 114, 99] = [[115, 114, 99]] := by decide
  rw [e] at hn
  simp at hn
  subst hn; exact okName_ascii _ (by decide) (by decide) (by decide))
theorem isP_srcx : isP [115, 114, 99, 47, 120] = true := isP_of _ (by decide) (by decide) (fun n hn => by
  have e : parts [115, 114, 99, 47, 120] = [[115, 114, 99], [120]] := by decide
  rw [e] at hn
  simp at hn
  rcases hn with rfl | rfl <;> exact okName_ascii _ (by decide) (by decide) (by decide))
theorem isP_a_b : isP [97, 32, 98] = true := isP_of _ (by decide) (by decide) (fun n hn => by
  have e : parts [97, 32, 98] = [[97, 32, 98]] := by decide
  rw [e] at hn
  simp at hn
  subst hn; exact okName_ascii _ (by decide) (by decide) (by decide))
theorem q_a_b : quoteL [97, 32, 98] = [34, 97, 32, 98, 34] := by
  unfold quoteL
  rw [qs_cons 97 _ (by decide) (by decide) (by decide) (by decide), qs_cons 32 _ (by decide) (by decide) (by decide) (by decide), qs_cons 98 _ (by decide) (by decide) (by decide) (by decide), qs_nil]; rfl
theorem wl_keep : wordL [107, 101, 101, 112] = [107, 101, 101, 112] := by unfold wordL; rw [if_pos pl_keep]
theorem wl_drop : wordL [100, 114, 111, 112] = [100, 114, 111, 112] := by unfold wordL; rw [if_pos pl_drop]
theorem wl_move : wordL [109, 111, 118, 101] = [109, 111, 118, 101] := by unfold wordL; rw [if_pos pl_move]
theorem wl_src : wordL [115, 114, 99] = [115, 114, 99] := by unfold wordL; rw [if_pos pl_src]
theorem wl_srcx : wordL [115, 114, 99, 47, 120] = [115, 114, 99, 47, 120] := by unfold wordL; rw [if_pos pl_srcx]
theorem wl_root : wordL [47] = [47] := by unfold wordL; rw [if_pos pl_root]
theorem u_one : lineG [107, 101, 101, 112, 32, 115, 114, 99] = .ok (some (1, [115, 114, 99], [])) := by
  have e : lineR (1, [115, 114, 99], []) = [107, 101, 101, 112, 32, 115, 114, 99] := by
    show wordL [107, 101, 101, 112] ++ (32 :: wordL [115, 114, 99] ++ []) = _
    rw [wl_keep, wl_src]; rfl
  rw [← e]
  exact lineG_line (by unfold okR; rw [isP_src, isP_nil]; rfl)
theorem u_four : lineG [100, 114, 111, 112, 32, 115, 114, 99, 47, 120] = .ok (some (2, [115, 114, 99, 47, 120], [])) := by
  have e : lineR (2, [115, 114, 99, 47, 120], []) = [100, 114, 111, 112, 32, 115, 114, 99, 47, 120] := by
    show wordL [100, 114, 111, 112] ++ (32 :: wordL [115, 114, 99, 47, 120] ++ []) = _
    rw [wl_drop, wl_srcx]; rfl
  rw [← e]
  exact lineG_line (by unfold okR; rw [isP_srcx, isP_nil]; rfl)
theorem u_two : lineG [109, 111, 118, 101, 32, 34, 97, 32, 98, 34, 32, 47, 32, 35, 32, 110, 111] = .ok (some (3, [97, 32, 98], [])) := by
  have h1 := fun p => wordsL_word [109, 111, 118, 101] [32, 34, 97, 32, 98, 34, 32, 47, 32, 35, 32, 110, 111] p (by decide)
  simp only [wl_move] at h1
  have h2 := fun p => wordsL_blank [32, 34, 97, 32, 98, 34, 32, 47, 32, 35, 32, 110, 111] p (by decide) (by decide)
  have h3 := fun p => wordsL_quoted [97, 32, 98] [32, 47, 32, 35, 32, 110, 111] p (by decide)
  simp only [q_a_b] at h3
  have h4 := fun p => wordsL_blank [32, 47, 32, 35, 32, 110, 111] p (by decide) (by decide)
  have h5 := fun p => wordsL_word [47] [32, 35, 32, 110, 111] p (by decide)
  simp only [wl_root] at h5
  have h6 := fun p => wordsL_blank [32, 35, 32, 110, 111] p (by decide) (by decide)
  have h7 := fun p => wordsL_rem [35, 32, 110, 111] p (by decide) (by decide)
  have hw : wordsL [109, 111, 118, 101, 32, 34, 97, 32, 98, 34, 32, 47, 32, 35, 32, 110, 111] 0 = .ok [[109, 111, 118, 101], [97, 32, 98], [47]] := by
    show wordsL ([109, 111, 118, 101] ++ [32, 34, 97, 32, 98, 34, 32, 47, 32, 35, 32, 110, 111]) 0 = _
    rw [h1, h2]
    show addW _ (wordsL ([34, 97, 32, 98, 34] ++ [32, 47, 32, 35, 32, 110, 111]) _) = _
    rw [h3, h4]
    show addW _ (addW _ (wordsL ([47] ++ [32, 35, 32, 110, 111]) _)) = _
    rw [h5, h6]
    show addW _ (addW _ (addW _ (wordsL [35, 32, 110, 111] _))) = _
    rw [h7]; rfl
  exact lineG_ws (r := (3, [97, 32, 98], [])) hw (by unfold okR; rw [isP_a_b, isP_nil]; rfl)
theorem u_three : lineG [] = .ok none := by unfold lineG; rw [wordsL_nil]
theorem u_wake : readT utext = .ok [(1, [115, 114, 99], []), (3, [97, 32, 98], []), (2, [115, 114, 99, 47, 120], [])] := by
  have hl : linesL utext = [[107, 101, 101, 112, 32, 115, 114, 99], [109, 111, 118, 101, 32, 34, 97, 32, 98, 34, 32, 47, 32, 35, 32, 110, 111], [], [100, 114, 111, 112, 32, 115, 114, 99, 47, 120]] := by decide
  unfold readT
  rw [if_neg (by decide), hl]
  simp only [readG, u_one, u_two, u_three, u_four]
  rfl
end Go.Proofs.YtdchmmdndgbllaaDoor
