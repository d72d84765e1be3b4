import Derived.Test.YtncagdfbgpdhfaaGreatQ41
import Derived.Test.YtncagdfbgpdhfaaGreatQ46
import Derived.Test.YtncagdfbgpdhfaaGreatQ47
import Derived.Test.YtncagdfbgpdhfaaGreatQ45
/- What a history of the laws of layer 12 gives to the calls behind it; the facts of ParentsLeast as one. -/
namespace Go.Proofs.YtncagdfbgpdhfaaGreat
open Go.RowKit Go.Maps

theorem Brs12.below {w w' : World} {a : Option Addr} {n : Nat} {l : List BornD} (h : Brs12 w a n l) (hB : Below w.heap.size w w') : Brs12 w' a n l :=
  ⟨h.1, fun h0 => by
    obtain ⟨b, off, e, hc⟩ := h.2 h0
    refine ⟨b, off, e, fun j x hx => ?_⟩
    obtain ⟨ba, bn, bc, c0, c1, c2, c3, hi, h1, h2, h3⟩ := hc j x hx
    exact ⟨ba, bn, bc, (hB.cell (p := ⟨b, off + j * 4, none⟩) (World.block_lt_of_cell? w _ c0)).trans c0, (hB.cell (p := ⟨b, off + j * 4 + 1, none⟩) (World.block_lt_of_cell? w _ c1)).trans c1, (hB.cell (p := ⟨b, off + j * 4 + 2, none⟩) (World.block_lt_of_cell? w _ c2)).trans c2, (hB.cell (p := ⟨b, off + j * 4 + 3, none⟩) (World.block_lt_of_cell? w _ c3)).trans c3, hi.below hB, h1, h2, h3⟩⟩
theorem In12.env {w wr : World} {hb s d : Nat} {st : St12} {S : DG} {F G X : Nat → Prop} {nv iv : Value} {ns : List Nd} (I : In12 w wr hb s d st S F G X nv iv ns) : ∃ ia ic, iv = .slice ia st.ids.length ic ∧ ∀ W, Below wr.heap.size wr W → (W.cell? ⟨hb, 0, none⟩ = some (.pointer (some ⟨s, 0, none⟩)) ∧ W.cell? ⟨hb, 2, none⟩ = some (.slice ia st.ids.length ic)) ∧ Ids W ia st.ids.length st.ids ∧ IsSt W s d st.os (fileB (st.os.map obB)).length false F := by
  obtain ⟨ia, ic, e2, _, _⟩ := row_shapeN I.ir
  subst e2
  refine ⟨ia, ic, rfl, fun W hW => ?_⟩
  have J := I.below hW
  obtain ⟨x1, x2, x3, x4⟩ := own_ids J.ir
  cases x3
  exact ⟨⟨J.c0, J.c2⟩, x4, J.sg.st⟩
open Classical in
noncomputable def ancB (os : List Ob) (x y : Int) : Bool := decide (Anc (parsO os) x y)
theorem ancB_iff (os : List Ob) (x y : Int) : ancB os x y = true ↔ Anc (parsO os) x y := by unfold ancB; classical exact decide_eq_true_iff
theorem led_step {os : List Ob} {x y : Int} {R : List Int} {k : Nat} (hy : R[k]? = some y) : (R.take (k + 1)).any (ancB os x) = ((R.take k).any (ancB os x) || ancB os x y) := by
  obtain ⟨h2, h3⟩ := List.getElem?_eq_some_iff.1 hy
  rw [List.take_succ_eq_append_getElem h2, List.any_append, h3]
  simp
theorem led_all {os : List Ob} {x : Int} {R : List Int} (h : ∃ y ∈ R, Anc (parsO os) x y) : R.any (ancB os x) = true := by
  obtain ⟨y, hy, hA⟩ := h
  exact List.any_eq_true.2 ⟨y, hy, (ancB_iff _ _ _).2 hA⟩
/-- what is left of a list: all that the law asks -/
structure LF (os : List Ob) (L R : List Int) : Prop where
  rng : ∀ x ∈ R, 0 ≤ x ∧ x ≤ 18446744073709551615
  len : R.length ≤ L.length
  sub : ∀ x ∈ R, x ∈ L
  again : ∃ g2, ordG os R GS.none = .ok g2 ∧ redP os g2 R = R
  anc : ∀ x ∈ L, ∀ y ∈ R, ∃ gx, ordG os [x, y] GS.none = .ok gx ∧ (decide (0 < linesG os gx.ord x y) = true ↔ Anc (parsO os) x y)
  beside : ∀ (i k : Nat) x y, R[i]? = some x → R[k]? = some y → (Anc (parsO os) x y ↔ i = k)
  led : ∀ x ∈ L, ∃ y ∈ R, Anc (parsO os) x y
  turned : ∃ g3, ordG os (turnL L) GS.none = .ok g3 ∧ (redP os g3 (turnL L)).length = R.length ∧ ∀ x ∈ redP os g3 (turnL L), x ∈ R
theorem least_facts {os : List Ob} {L : List Int} {g : GS} (h : ordG os L GS.none = .ok g) (hr : ∀ x ∈ L, 0 ≤ x ∧ x ≤ 18446744073709551615) : LF os L (redP os g L) where
  rng := fun x hx => hr x ((redP_mem h x).1 hx).1
  len := redG_len _ _ _
  sub := fun x hx => ((redP_mem h x).1 hx).1
  again := redP_again h
  anc := fun x hx y hy => anc_at h (ord_heads h x hx) (ord_heads h y ((redP_mem h y).1 hy).1)
  beside := fun _ _ _ _ hx hy => redP_beside h hx hy
  led := fun _ hx => redP_led h hx
  turned := redP_turned h (turnL_mem L)
theorem anc_call (W : World) (s d : Nat) (os : List Ob) (sz : Nat) (cut : Bool) (F : Nat → Prop) (hS : IsSt W s d os sz cut F) (hos : os.length ≤ 65536) {L R : List Int} (hF : LF os L R) (hr : ∀ x ∈ L, 0 ≤ x ∧ x ≤ 18446744073709551615) {x y : Int} (hx : x ∈ L) (hy : y ∈ R) (b : Bool) (hb : b = true ↔ Anc (parsO os) x y) :
    Calls Tryz.prog 24 #[.pointer (some ⟨s, 0, none⟩), .int .u64 x, .int .u64 y] W fun e w' => e = .returned (.tuple #[.bool b, .int .i64 0]) ∧ Below W.heap.size W w' := by
  obtain ⟨gx, h1, h2⟩ := hF.anc x hx y hy
  have h := ancestor_any W s d os sz cut F hS hos x y (hr x hx) (hF.rng y hy)
  rw [h1] at h
  have e : decide (0 < linesG os gx.ord x y) = b := by
    rw [Bool.eq_iff_iff, h2, hb]
  refine h.mono fun e' w' hh => ⟨?_, hh.1⟩
  have := hh.2
  rw [← e]
  exact this
end Go.Proofs.YtncagdfbgpdhfaaGreat
