import Derived.Test.YtncagdfbgpdhfaaGreatQ35
import Derived.Test.YtncagdfbgpdhfaaGreatQ36
import Derived.Test.YtncagdfbgpdhfaaGreatQ32
import Derived.Test.YtncagdfbgpdhfaaGreatQ33
/- The nodes of a history and the objects of its store say the same of every id but the empty tree's; and so it is gone through in the same way. -/
namespace Go.Proofs.YtncagdfbgpdhfaaGreat

end Go.Proofs.YtncagdfbgpdhfaaGreat

/- What Between tells of two lists of heads, plain; heads as a list of ids. -/
namespace Go.Proofs.YtncagdfbgpdhfaaGreat
open Go.RowKit Go.Maps

/-- every id of an order is a commit: there are no more of them than objects -/
theorem ord_len {os : List Ob} {l : List Int} {gs : GS} (h : ordG os l GS.none = .ok gs) : gs.ord.length ≤ os.length := by
  obtain ⟨hI, _⟩ := btw_sim os l [] gs h
  have h1 := nodup_le gs.ord (oids os) hI.nd (fun x hx => by
    obtain ⟨i, hi⟩ := List.getElem?_of_mem hx
    obtain ⟨ps, hp, _⟩ := hI.topo i x hi
    exact findO_oids (by rw [hp]; rfl))
  simpa [oids] using h1
end Go.Proofs.YtncagdfbgpdhfaaGreat

/- The walk of Roots. -/
namespace Go.Proofs.YtncagdfbgpdhfaaGreat
open Go.RowKit Go.Maps

attribute [local go_sem] Oper.semAt_some

end Go.Proofs.YtncagdfbgpdhfaaGreat

/- Plain facts for GraphParts: heads behind heads; commits of a history without parents. -/
namespace Go.Proofs.YtncagdfbgpdhfaaGreat
open Go.RowKit Go.Maps

end Go.Proofs.YtncagdfbgpdhfaaGreat

/- Plain facts for GraphTells: how many parents there are, how great ways get, what the last of an order is. -/
namespace Go.Proofs.YtncagdfbgpdhfaaGreat
open Go.RowKit Go.Maps

end Go.Proofs.YtncagdfbgpdhfaaGreat

/- The walk of the laws' place: where an id stands. -/
namespace Go.Proofs.YtncagdfbgpdhfaaGreat
open Go.RowKit Go.Maps

attribute [local go_sem] Oper.semAt_some

end Go.Proofs.YtncagdfbgpdhfaaGreat

/- Plain facts for GraphLaws: places, depths and ancestors within one order. -/
namespace Go.Proofs.YtncagdfbgpdhfaaGreat
open Go.RowKit Go.Maps

theorem ord_rng {os : List Ob} {l : List Int} {g : GS} (h : ordG os l GS.none = .ok g) : ∀ u ∈ g.ord, 0 ≤ u ∧ u ≤ 18446744073709551615 := by
  intro u hu
  obtain ⟨i, hi⟩ := List.getElem?_of_mem hu
  obtain ⟨ps, hp, _⟩ := (ord_inv h).topo i u hi
  unfold parsO at hp
  cases hf : findO os u with
  | none => rw [hf] at hp; cases hp
  | some o =>
    obtain ⟨_, h2⟩ := findO_mem hf
    rw [← h2]
    exact (oid_rng o).2
/-- Ancestor of two commits of an order -/
theorem laws_anc {os : List Ob} {l : List Int} {g : GS} (h : ordG os l GS.none = .ok g) {A B : Int} (hA : A ∈ g.ord) (hB : B ∈ g.ord) : ∃ gx, ordG os [A, B] GS.none = .ok gx ∧ (0 < linesG os gx.ord A B ↔ Anc (parsO os) A B) := by
  obtain ⟨gx, h1, h2⟩ := ord_within (m := [A, B]) h (fun y hy => by
    rcases List.mem_cons.1 hy with e | e
    · subst e; exact hA
    · have := List.mem_singleton.1 e; subst this; exact hB)
  have hJ := ord_inv h1
  exact ⟨gx, h1, ways_anc hJ.topo hJ.nd A B (ord_heads h1 B (by simp))⟩
end Go.Proofs.YtncagdfbgpdhfaaGreat
