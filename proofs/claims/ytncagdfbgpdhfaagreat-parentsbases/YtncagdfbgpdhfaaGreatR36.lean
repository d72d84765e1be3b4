import Derived.Test.YtncagdfbgpdhfaaGreatR35
import Derived.Test.YtncagdfbgpdhfaaGreatR34
import Derived.Deep.DeepCutAuto
import Derived.Deep.CutRange
import Derived.BigRegion
import Derived.Deep.LoopGhost
import Derived.Test.YtncagdfbgpdhfaaGreatR17
import Derived.ProofKit
import Derived.OpenShut
import Derived.ShutString
import Derived.ChangeOld
import Derived.SizedLaws
import Derived.Deep.Slices
import Derived.Test.YtncagdfbgpdhfaaGreatR31
import Derived.Test.YtncagdfbgpdhfaaGreatR32
/- The walk of born. -/
namespace Go.Proofs.YtncagdfbgpdhfaaGreat
open Go.RowKit Go.Shelf Go.Maps

attribute [local go_sem] Oper.semAt_some

/-- a slice of numbers -/
def Ints (w : World) (a : Option Addr) (n : Nat) (l : List Int) : Prop := l.length = n ∧ (0 < n → ∃ b off, a = some ⟨b, off, none⟩ ∧ ∀ (j : Nat) x, l[j]? = some x → w.cell? ⟨b, off + j, none⟩ = some (.int .i64 x))
theorem Ints.below {w w' : World} {a : Option Addr} {n : Nat} {l : List Int} (h : Ints w a n l) (hB : Below w.heap.size w w') : Ints w' a n l :=
  ⟨h.1, fun h0 => by
    obtain ⟨b, off, e, hc⟩ := h.2 h0
    exact ⟨b, off, e, fun j x hx => (hB.cell (p := ⟨b, off + j, none⟩) (World.block_lt_of_cell? w _ (hc j x hx))).trans (hc j x hx)⟩⟩
/-- the parents that a commit has behind so many of its numbers -/
def backsP (ids : List Int) (back : List Int) (j : Nat) : List Int := if ids.length = 0 then [] else (back.take (min j 7)).map (backId ids)
theorem empty_dec : decG (obB (.tree [])) = some (.tree []) ∧ (obB (.tree [])).length ≤ 16384 := by
  have h := gob_ok (empty_ob default).1 empty_err
  exact ⟨h.2, h.1⟩
theorem emptyI_ne : emptyI ≠ 0 := by
  show idOf (obB (.tree [])) ≠ 0
  unfold idOf
  split <;> omega
theorem emptyI_rng : 0 ≤ emptyI ∧ emptyI ≤ 18446744073709551615 := by
  unfold emptyI oid
  exact idOf_bounds _
theorem cell_newD (w : World) (x : Value) (t : TypeId) : (w.alloc (.cells #[x] t)).drew.cell? ⟨w.heap.size, 0, none⟩ = some x := by
  show (w.alloc (.cells #[x] t)).cell? ⟨w.heap.size, 0, none⟩ = some x
  simp only [World.cell?, World.alloc_heap_new]
  rfl
theorem wrap_small {z : Int} (h0 : -9223372036854775808 ≤ z) (h1 : z ≤ 9223372036854775807) : IntKind.i64.wrap z = z := by
  simp only [IntKind.wrap, IntKind.signed, IntKind.bits]
  simp
  omega
/-- a node appended to a row of one's own, in a region that draws -/
theorem step_appN (w : World) {ops : Array Oper} {o : Oper} {a : Act} {K : Act → World → Prop} {Q : Exit → Act → World → Prop} {E : Prop} (hgd : o.guard = none) (s x : Operand)
    (ho : o.op = .call { callee := .builtin .append, args := #[s, x], argTypes := #[36, 36] }) (i0 : TypeInfo) (z : Value) (hi : Tryz.prog.info? 85 = some i0) (hz0 : i0.zero = some z) (hz1 : i0.size = 3) (hz2 : i0.bytes = 40) (hzc : z.cells.size = 3)
    (v : Value) (n : Nat) (xs : List Value) (hs : a.eval s = v) (hown : w.ownsRow 0 85 3 v n xs) (ad : Addr) (m : Nd) (hx : a.eval x = .slice (some ad) 1 1) (hm : ∀ j u, (ndCells [m])[j]? = some u → w.cell? (ad.add j) = some u) (hn : n ≤ 1000000000000)
    (h : ∀ v' w', w'.ownsRow 0 85 3 v' (n + 1) (xs ++ ndCells [m]) → w.grownBy w' v.ownBlock → (v'.ownBlock = v.ownBlock ∨ v'.ownBlock = some w.heap.size) → K (a.put o.dst v') w') :
    if Region.wanted o (yielded ops a.tmps) = true then Oper.wp Tryz.prog o a w K Q else E := by
  have hw : Region.wanted o (yielded ops a.tmps) = true := by simp [Region.wanted, hgd]
  rw [if_pos hw]
  obtain ⟨v', w', hr, h2, h3, _, h4⟩ := run_append_own_at (P := Tryz.prog) w 0 36 o.type 85 i0 z 3 40 Tryz.underlying36 hi hz0 hz1 hz2 hzc (by omega) v n xs hown ad 1 1 (ndCells [m]) rfl hm (ndCells_one _) (by unfold maxLen; omega) (by omega) (Nat.zero_le _)
  unfold Oper.wp execOp
  simp only [ho, resolve, invoke, builtin, Sem.run_bind, Sem.run_pure, Result.andThen_ok, List.map_toArray, List.map_cons, List.map_nil, hs, hx, hr]
  exact h v' w' h2 h3 h4
theorem own_or {v' v : Value} {w : World} {o : Obj} (h : v'.ownBlock = v.ownBlock ∨ v'.ownBlock = some (w.alloc o).heap.size) : ∀ z, v'.ownBlock = some z → v.ownBlock = some z ∨ w.heap.size ≤ z := by
  intro z hz
  rcases h with e | e
  · exact .inl (by rw [← e]; exact hz)
  · rw [e] at hz
    cases hz
    rw [World.size_alloc]
    exact .inr (Nat.le_succ _)
theorem row_high {w : World} {e : TypeId} {B n z : Nat} {v : Value} {xs : List Value} (h : w.ownsRow 0 e z v n xs) (hb : ∀ g, v.ownBlock = some g → B ≤ g) : w.ownsRow B e z v n xs := by
  refine ⟨h.1, ?_⟩
  rcases h.2 with h0 | ⟨g, cap, cur, h1, h2, h3⟩
  · exact .inl h0
  · exact .inr ⟨g, cap, cur, h1, hb g (by rw [h1]; rfl), h3⟩
theorem backsP_more (ids back : List Int) (j : Nat) (x : Int) (hk : 0 < ids.length) (hj : j < 7) (hx : back[j]? = some x) : backsP ids back (j + 1) = backsP ids back j ++ [backId ids x] := by
  unfold backsP
  rw [if_neg (by omega), if_neg (by omega), show min (j + 1) 7 = j + 1 by omega, show min j 7 = j by omega]
  have hkl := (List.getElem?_eq_some_iff.1 hx).1
  have hx' : back[j] = x := (List.getElem?_eq_some_iff.1 hx).2
  rw [List.take_succ_eq_append_getElem hkl, hx']
  simp
theorem backsP_len (ids back : List Int) (j : Nat) : (backsP ids back j).length ≤ 7 := by
  unfold backsP
  split
  · simp
  · rw [List.length_map, List.length_take]; omega

end Go.Proofs.YtncagdfbgpdhfaaGreat

/- Commits and numbers that came in, opened. -/
namespace Go.Proofs.YtncagdfbgpdhfaaGreat
open Go.ChangeShapes Go.WideShapes Go.ChangeAt Go.RowKit

theorem ints_cell {H : Type} {enc : TypeId × Value → H} {W : World} {fuel : Nat} {v : Value} {x : DataW H × List MemPlace} (hf : DataW.trod enc Tryz.prog W 0 (fun _ => true) true fuel 23 [v] = some x) :
    ∃ a n cap l, v = .slice a n cap ∧ Ints W a n l ∧ (∀ x ∈ l, -9223372036854775808 ≤ x ∧ x ≤ 9223372036854775807) ∧ n ≤ cap ∧ n ≤ 9223372036854775807 ∧ (a = none → n = 0 ∧ cap = 0) := by
  rcases open_ints Tryz.underlying23 Tryz.underlying3 (by kernel_rfl) hf with ⟨hcs, _⟩ | ⟨x, n, cap, zs, hcs, _, hl, hm, hz, hx, hcell, hwz⟩
  · simp only [List.cons.injEq, and_true] at hcs
    subst hcs
    exact ⟨none, 0, 0, [], rfl, ⟨rfl, fun h0 => by omega⟩, fun x hx => (by simp at hx), Nat.le_refl _, by omega, fun _ => ⟨rfl, rfl⟩⟩
  · simp only [List.cons.injEq, and_true] at hcs
    subst hcs
    simp only [if_true] at hz
    refine ⟨some x, n, cap, zs.take n, rfl, ⟨by rw [List.length_take]; omega, fun h0 => ?_⟩, fun x hx => ?_, hl, by unfold maxLen at hm; omega, fun h => by cases h⟩
    · obtain ⟨b, off, spot⟩ := x
      have hc := hcell 0 (by omega)
      have hspot : spot = none := by simpa [Addr.add] using World.cell?_spot hc
      subst hspot
      refine ⟨b, off, rfl, fun i x hx => ?_⟩
      have hi : i < n := by have := (List.getElem?_eq_some_iff.1 hx).1; rw [List.length_take] at this; omega
      have hci := hcell i (by omega)
      rw [Addr.add_lit] at hci
      rw [hci]
      rw [List.getElem?_take_of_lt hi] at hx
      rw [List.getD_eq_getElem?_getD, hx]; rfl
    · have := bounds_i64 (hwz x (List.mem_of_mem_take hx))
      omega

end Go.Proofs.YtncagdfbgpdhfaaGreat

/- The walk of the law's heads: ids of a history, by numbers. -/
namespace Go.Proofs.YtncagdfbgpdhfaaGreat
open Go.RowKit Go.Maps

attribute [local go_sem] Oper.semAt_some

end Go.Proofs.YtncagdfbgpdhfaaGreat

/- The nodes of a history and the objects of its store say the same of every id but the empty tree's; and so it is gone through in the same way. -/
namespace Go.Proofs.YtncagdfbgpdhfaaGreat

end Go.Proofs.YtncagdfbgpdhfaaGreat

/- What Between tells of two lists of heads, plain; heads as a list of ids. -/
namespace Go.Proofs.YtncagdfbgpdhfaaGreat
open Go.RowKit Go.Maps

/-- every id of an order is a commit: there are no more of them than objects -/
theorem ord_len {os : List Ob} {l : List Int} {gs : GS} (h : ordG os l GS.none = .ok gs) : gs.ord.length ≤ os.length := by
  obtain ⟨hI, _⟩ := btw_sim os l [] gs h
  have h1 := nodup_le gs.ord (oids os) hI.nd (fun x hx => by
    obtain ⟨i, hi⟩ := List.getElem?_of_mem hx
    obtain ⟨ps, hp, _⟩ := hI.topo i x hi
    exact findO_oids (by rw [hp]; rfl))
  simpa [oids] using h1
end Go.Proofs.YtncagdfbgpdhfaaGreat

/- The walk of Roots. -/
namespace Go.Proofs.YtncagdfbgpdhfaaGreat
open Go.RowKit Go.Maps

attribute [local go_sem] Oper.semAt_some

end Go.Proofs.YtncagdfbgpdhfaaGreat

/- Plain facts for GraphParts: heads behind heads; commits of a history without parents. -/
namespace Go.Proofs.YtncagdfbgpdhfaaGreat
open Go.RowKit Go.Maps

end Go.Proofs.YtncagdfbgpdhfaaGreat

/- Plain facts for GraphTells: how many parents there are, how great ways get, what the last of an order is. -/
namespace Go.Proofs.YtncagdfbgpdhfaaGreat
open Go.RowKit Go.Maps

end Go.Proofs.YtncagdfbgpdhfaaGreat

/- The walk of the laws' place: where an id stands. -/
namespace Go.Proofs.YtncagdfbgpdhfaaGreat
open Go.RowKit Go.Maps

attribute [local go_sem] Oper.semAt_some

end Go.Proofs.YtncagdfbgpdhfaaGreat

/- Plain facts for GraphLaws: places, depths and ancestors within one order. -/
namespace Go.Proofs.YtncagdfbgpdhfaaGreat
open Go.RowKit Go.Maps

theorem ord_rng {os : List Ob} {l : List Int} {g : GS} (h : ordG os l GS.none = .ok g) : ∀ u ∈ g.ord, 0 ≤ u ∧ u ≤ 18446744073709551615 := by
  intro u hu
  obtain ⟨i, hi⟩ := List.getElem?_of_mem hu
  obtain ⟨ps, hp, _⟩ := (ord_inv h).topo i u hi
  unfold parsO at hp
  cases hf : findO os u with
  | none => rw [hf] at hp; cases hp
  | some o =>
    obtain ⟨_, h2⟩ := findO_mem hf
    rw [← h2]
    exact (oid_rng o).2
/-- Ancestor of two commits of an order -/
theorem laws_anc {os : List Ob} {l : List Int} {g : GS} (h : ordG os l GS.none = .ok g) {A B : Int} (hA : A ∈ g.ord) (hB : B ∈ g.ord) : ∃ gx, ordG os [A, B] GS.none = .ok gx ∧ (0 < linesG os gx.ord A B ↔ Anc (parsO os) A B) := by
  obtain ⟨gx, h1, h2⟩ := ord_within (m := [A, B]) h (fun y hy => by
    rcases List.mem_cons.1 hy with e | e
    · subst e; exact hA
    · have := List.mem_singleton.1 e; subst this; exact hB)
  have hJ := ord_inv h1
  exact ⟨gx, h1, ways_anc hJ.topo hJ.nd A B (ord_heads h1 B (by simp))⟩
end Go.Proofs.YtncagdfbgpdhfaaGreat
