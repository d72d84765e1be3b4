import Derived.Test.YtdchmmdndgbllaaDoorX26
import Derived.Lib.Join
import Derived.Deep.RegionHeld3
import Derived.WalkSmall
/- The walks of Make, Join, Depth, texts. -/
namespace Go.Proofs.YtdchmmdndgbllaaDoor
open Go.RowKit Go.Shelf

/-- what is wrong with the first of some names that is none -/
def firstN : List (List UInt8) → Nat
  | [] => 0
  | n :: r => if okName n then firstN r else (spot n).1
theorem firstN_zero (l : List (List UInt8)) (h : firstN l = 0) : Good l := by
  induction l with
  | nil => intro p hp; cases hp
  | cons q r ih =>
    intro p hp
    unfold firstN at h
    cases hq : okName q with
    | false =>
      rw [hq] at h
      unfold okName at hq
      rw [show (spot q).1 = 0 from h] at hq
      cases hq
    | true =>
      rw [hq] at h
      rcases List.mem_cons.1 hp with e | e
      · rw [e]; exact hq
      · exact ih h p e
theorem firstN_of (l : List (List UInt8)) (h : Good l) : firstN l = 0 := by
  induction l with
  | nil => rfl
  | cons q r ih =>
    unfold firstN
    rw [h q (by simp), ih (fun p hp => h p (by simp [hp]))]; rfl
/-- names make a path -/
def makeP (ns : List (List UInt8)) : List UInt8 × Nat := if firstN ns ≠ 0 then ([], firstN ns) else if 16 < ns.length ∨ 200 < (glue ns).length then ([], 3) else (glue ns, 0)
theorem firstN_drop (l : List ByteArray) (k : Nat) (x : ByteArray) (hx : l[k]? = some x) : firstN ((l.drop k).map bs) = if okName (bs x) then firstN ((l.drop (k + 1)).map bs) else (spot (bs x)).1 := by
  have hk : k < l.length := (List.getElem?_eq_some_iff.1 hx).1
  rw [List.drop_eq_getElem_cons hk, (List.getElem?_eq_some_iff.1 hx).2]
  rfl
theorem glue_small : ∀ (ns : List (List UInt8)), Good ns → (glue ns).length ≤ 33 * ns.length
  | [], _ => by simp [glue_nil]
  | [n], h => by
    rw [glue_one]
    have := (okName_parts n (h n (by simp))).2.1
    simp; omega
  | n :: m :: r, h => by
    rw [glue_cons _ _ (by simp), List.length_append, List.length_cons, List.length_cons]
    have h1 := (okName_parts n (h n (by simp))).2.1
    have h2 := glue_small (m :: r) (fun x hx => h x (by simp [hx]))
    omega
theorem join_glue (l : List ByteArray) : (⟨(Lib.join (l.map (·.data.toList)) [47]).toArray⟩ : ByteArray) = mk (glue (l.map bs)) := rfl

/-- two paths put together, or what is wrong -/
def joinR (p q : List UInt8) : List UInt8 × Nat := if firstP [p, q] ≠ 0 then ([], firstP [p, q]) else match joinP p q with
  | none => ([], 3)
  | some x => (x, 0)
/-- how many names -/
def depthP (p : List UInt8) : Int := if isP p then ((parts p).length : Int) else -1
end Go.Proofs.YtdchmmdndgbllaaDoor
