import Derived.Test.YtdchmmdndgbllaaDoorV14
import Derived.Test.YtdchmmdndgbllaaDoorV22
/- The walks of firstErr, join, Move, Join. -/
namespace Go.Proofs.YtdchmmdndgbllaaDoor
open Go.RowKit Go.Shelf

attribute [local go_sem] Oper.semAt_some

/-- a slice of texts -/
theorem firstP_drop (l : List ByteArray) (k : Nat) (x : ByteArray) (hx : l[k]? = some x) : firstP ((l.drop k).map bs) = if isP (bs x) then firstP ((l.drop (k + 1)).map bs) else (pathSpot (bs x)).1 := by
  have hk : k < l.length := (List.getElem?_eq_some_iff.1 hx).1
  rw [List.drop_eq_getElem_cons hk, (List.getElem?_eq_some_iff.1 hx).2]
  rfl

def joinS (p q : ByteArray) : ByteArray := mk ((joinP (bs p) (bs q)).getD [])
def joinE (p q : ByteArray) : Nat := if (joinP (bs p) (bs q)).isSome then 0 else 3

theorem joinP_mid (p q : ByteArray) (h1 : bs p ≠ []) (h2 : bs q ≠ []) : joinP (bs p) (bs q) = if 16 < (parts (bs p)).length + (parts (bs q)).length ∨ 200 < p.size + 1 + q.size then none else some (bs p ++ 47 :: bs q) := by
  unfold joinP
  rw [if_neg h1, if_neg h2, bs_len, bs_len]

def ncutT (s : ByteArray) : ByteArray := s.extract 0 (min s.size 4096)
theorem ncutT_size (s : ByteArray) : (ncutT s).size ≤ 4096 := by simp [ncutT]; omega
theorem badAt_ascii (l : List UInt8) (h : ∀ c ∈ l, 32 ≤ c.toNat ∧ c.toNat < 127 ∧ c ≠ 47) : badAt l = none := by
  induction l with
  | nil => exact badAt_nil
  | cons c t ih =>
    obtain ⟨h1, h2, h3⟩ := h c (by simp)
    have hd := dec_ascii c t (by omega)
    have hb : bad (c :: t) = false := by
      have h4 : ¬ c.toNat = 47 := fun e => h3 (UInt8.toNat_inj.1 e)
      simp only [bad, hd]
      simp
      omega
    rw [badAt_go _ (by simp) hb, hd]
    simp only [List.drop_succ_cons, List.drop_zero]
    rw [ih (fun x hx => h x (by simp [hx]))]; rfl
theorem okName_ascii (l : List UInt8) (h0 : ¬ (l = [] ∨ l = [46] ∨ l = [46, 46])) (h1 : l.length ≤ 32) (h : ∀ c ∈ l, 32 ≤ c.toNat ∧ c.toNat < 127 ∧ c ≠ 47) : okName l = true := by
  unfold okName spot
  rw [if_neg h0, if_neg (by omega), badAt_ascii l h]; rfl
theorem isP_of (l : List UInt8) (h1 : l.length ≤ 200) (h2 : (parts l).length ≤ 16) (h3 : ∀ n ∈ parts l, okName n = true) : isP l = true := (isP_iff l).2 ⟨h1, h3, h2⟩
theorem isP_ab : isP [97, 47, 98] = true := isP_of _ (by decide) (by decide) (fun n hn => by
  have e : parts [97, 47, 98] = [[97], [98]] := by decide
  rw [e] at hn
  simp at hn
  rcases hn with rfl | rfl <;> exact okName_ascii _ (by decide) (by decide) (by decide))
theorem isP_abw : isP [97, 98] = true := isP_of _ (by decide) (by decide) (fun n hn => by
  have e : parts [97, 98] = [[97, 98]] := by decide
  rw [e] at hn
  simp at hn
  subst hn; exact okName_ascii _ (by decide) (by decide) (by decide))
theorem isP_a : isP [97] = true := isP_of _ (by decide) (by decide) (fun n hn => by
  have e : parts [97] = [[97]] := by decide
  rw [e] at hn
  simp at hn
  subst hn; exact okName_ascii _ (by decide) (by decide) (by decide))
theorem isP_xy : isP [120, 47, 121] = true := isP_of _ (by decide) (by decide) (fun n hn => by
  have e : parts [120, 47, 121] = [[120], [121]] := by decide
  rw [e] at hn
  simp at hn
  rcases hn with rfl | rfl <;> exact okName_ascii _ (by decide) (by decide) (by decide))
theorem move_wakes : moveP [97, 47, 98] [97] [120, 47, 121] = ([120, 47, 121, 47, 98], 0) := by
  have e0 : firstP [[97, 47, 98], [97], [120, 47, 121]] = 0 := by simp only [firstP, isP_ab, isP_a, isP_xy, if_true]
  have e1 : restP [97, 47, 98] [97] = some [98] := by decide
  have e2 : joinP [120, 47, 121] [98] = some [120, 47, 121, 47, 98] := by decide
  unfold moveP
  rw [e0, e1]
  simp only [ne_eq, not_true_eq_false, if_false, e2]
theorem in_wakes : inP [97, 47, 98] [97] = true := by
  have e1 : restP [97, 47, 98] [97] = some [98] := by decide
  unfold inP; rw [isP_ab, isP_a, e1]; rfl
theorem in_wakes_no : inP [97, 98] [97] = false := by
  have e1 : restP [97, 98] [97] = none := by decide
  unfold inP; rw [isP_abw, isP_a, e1]; rfl
theorem spot_wakes : spot [47] = (140, 0) := by
  have hb : bad [47] = true := by
    unfold bad; rw [dec_ascii 47 [] (by decide)]; decide
  unfold spot
  rw [if_neg (by decide), if_neg (by decide), badAt_bad _ (by decide) hb]

end Go.Proofs.YtdchmmdndgbllaaDoor
