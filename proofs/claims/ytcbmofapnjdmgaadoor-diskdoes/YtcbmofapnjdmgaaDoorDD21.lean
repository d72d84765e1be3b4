import Derived.Test.YtcbmofapnjdmgaaDoorDD17
import Derived.Test.YtcbmofapnjdmgaaDoorDD13
import Derived.Test.YtcbmofapnjdmgaaDoorDD20
/- The walk of the statements' own comparison of two disks. -/
namespace Go.Proofs.YtcbmofapnjdmgaaDoor
open Go.RowKit Go.Maps

theorem equal_yes (w : World) (a b : Option Addr) (n c d : Nat) (l : List UInt8) (ha : Bytes w a n l) (hb : Bytes w b n l) :
    Calls Tryd.prog 21 #[.slice a n c, .slice b n d] w fun e w' => e = .returned (.bool true) ∧ w' = w :=
  (equal_any w a b n n c d l l ha hb).mono fun e w' ⟨h1, h2⟩ => ⟨by rw [h1]; simp, h2⟩

end Go.Proofs.YtcbmofapnjdmgaaDoor

/- The reference disk: a file made, bytes put behind a file's end: what it is then. -/
namespace Go.Proofs.YtcbmofapnjdmgaaDoor
open Go.RowKit Go.Maps

theorem RefAt.apart_ne {w : World} {p : Nat} {fs : Value} {is : List It} {wr : Nat} {left : Int} {Fp : Nat → Prop} (h : RefAt w p fs is wr left Fp) {j k : Nat} {b i : It} (hj : j ≠ k) (hb : is[j]? = some b) (hk : is[k]? = some i) (g : Nat) (h1 : b.v.ownBlock = some g) : i.v.ownBlock ≠ some g := by
  intro h2
  have nd := List.pairwise_iff_getElem.1 h.apart
  obtain ⟨hj1, hj2⟩ := List.getElem?_eq_some_iff.1 hb
  obtain ⟨hk1, hk2⟩ := List.getElem?_eq_some_iff.1 hk
  rcases Nat.lt_or_gt_of_ne hj with hlt | hgt
  · exact nd j k hj1 hk1 hlt g (by rw [hj2]; exact h1) (by rw [hk2]; exact h2)
  · exact nd k j hk1 hj1 hgt g (by rw [hk2]; exact h2) (by rw [hj2]; exact h1)

/-- a file without bytes stands behind the others: the list w1 has grown, and the field leads to it -/
theorem RefAt.made {w w1 : World} {p : Nat} {fs : Value} {is : List It} {wr : Nat} {left : Int} {Fp : Nat → Prop} (h : RefAt w p fs is wr left Fp) (s : ByteArray) (a' : Option Addr) (n c' : Nat)
    (ho : w1.ownsRow 0 51 2 (.slice a' n c') n (flat2 (is ++ [⟨s, .slice none 0 0, []⟩]))) (hg : w.grownBy w1 fs.ownBlock) (hat : (Value.slice a' n c').ownBlock = fs.ownBlock ∨ ∀ g, (Value.slice a' n c').ownBlock = some g → w.heap.size ≤ g) (hn : n = is.length + 1) :
    RefAt (w1.setCell ⟨p, 0, none⟩ (.slice a' n c')) p (.slice a' n c') (is ++ [⟨s, .slice none 0 0, []⟩]) wr left (grow Fp w w1) ∧ Turn Fp w (w1.setCell ⟨p, 0, none⟩ (.slice a' n c')) := by
  have hfpn : ∀ g, fs.ownBlock = some g → g ≠ p := fun g hg => (h.ff g hg).2
  have hplt := h.lt p h.fp
  have hp1 : w1.heap[p]? = w.heap[p]? := hg.block p hplt (fun e => hfpn p e.symm rfl)
  have hT1 : Turn Fp w w1 := Turn.of_grownBy hg (fun k hk => .inl (h.ff k hk).1)
  have hff : ∀ g, (Value.slice a' n c').ownBlock = some g → grow Fp w w1 g ∧ g ≠ p := by
    intro g hgo
    have hlt := (ho.lt g hgo).2
    rcases hat with e | e
    · rw [e] at hgo
      exact ⟨.inl (h.ff g hgo).1, (h.ff g hgo).2⟩
    · have := e g hgo
      exact ⟨.inr ⟨this, hlt⟩, by omega⟩
  have hnew : ∀ g, (Value.slice a' n c').ownBlock = some g → fs.ownBlock = some g ∨ w.heap.size ≤ g := by
    intro g hgo
    rcases hat with e | e
    · rw [e] at hgo; exact .inl hgo
    · exact .inr (e g hgo)
  refine ⟨?_, hT1.trans (turn_setCell w1 p 0 _) (fun i _ hi => by subst hi; exact h.fp)⟩
  refine { c0 := World.cell?_setCell_same _ _ _ (by rw [World.cell?_of_block hp1]; exact h.c0), c1 := by rw [World.cell?_setCell_other _ _ _ _ (by simp), World.cell?_of_block hp1]; exact h.c1, c2 := by rw [World.cell?_setCell_other _ _ _ _ (by simp), World.cell?_of_block hp1]; exact h.c2,
           f0 := by rw [World.frozen?_setCell, World.frozen?_of_block hp1]; exact h.f0, f1 := by rw [World.frozen?_setCell, World.frozen?_of_block hp1]; exact h.f1, f2 := by rw [World.frozen?_setCell, World.frozen?_of_block hp1]; exact h.f2, row := ?_, each := ?_, apart := ?_, ff := hff, fp := .inl h.fp, lt := ?_ }
  · rw [List.length_append, List.length_singleton, ← hn]
    exact ownsRow_move2 ho (fun g hgo => Below.heap_setCell _ _ _ _ (hff g hgo).2)
  · intro i hi
    rcases List.mem_append.1 hi with hi | hi
    · have he := h.each i hi
      refine ⟨ownsRow_move2 (w := w) he.1 (fun g hgo => ?_), fun g hgo => ⟨.inl (he.2 g hgo).1, (he.2 g hgo).2.1, fun e => ?_⟩⟩
      · rw [Below.heap_setCell _ _ _ _ (he.2 g hgo).2.1]
        exact hg.block g (h.lt g (he.2 g hgo).1) (fun e => (he.2 g hgo).2.2 e.symm)
      · rcases hnew g e with h1 | h1
        · exact (he.2 g hgo).2.2 h1
        · have := h.lt g (he.2 g hgo).1
          omega
    · simp at hi
      subst hi
      exact ⟨World.ownsRow_nil _ _ _ _, by simp [Value.ownBlock]⟩
  · rw [List.pairwise_append]
    refine ⟨h.apart, by simp, fun a _ b hb g _ => ?_⟩
    simp at hb
    subst hb
    simp [Value.ownBlock]
  · rintro k (hk | hk)
    · have := h.lt k hk
      have h2 := hg.size
      simp [World.setCell]
      omega
    · simpa [World.setCell] using hk.2

/-- bytes stand behind a file's end: append has laid them, and the file's cell leads to them -/
theorem RefAt.more {w w1 : World} {p g n c : Nat} {is : List It} {wr : Nat} {left : Int} {Fp : Nat → Prop} (h : RefAt w p (.slice (some ⟨g, 0, none⟩) n c) is wr left Fp) (k : Nat) (i : It) (hk : is[k]? = some i) (v' : Value) (bs' : List UInt8)
    (ho : w1.ownsRow 0 5 1 v' bs'.length (cellsOf bs')) (hg : w.grownBy w1 i.v.ownBlock) (hat : v'.ownBlock = i.v.ownBlock ∨ v'.ownBlock = some w.heap.size) :
    RefAt (w1.setCell ⟨g, k * 2 + 1, none⟩ v') p (.slice (some ⟨g, 0, none⟩) n c) (is.set k ⟨i.name, v', bs'⟩) wr left (grow Fp w w1) ∧ Turn Fp w (w1.setCell ⟨g, k * 2 + 1, none⟩ v') := by
  have hmem := List.mem_of_getElem? hk
  have hei := h.each i hmem
  have hgp := (h.ff g rfl).2
  have hplt := h.lt p h.fp
  have hglt := h.lt g (h.ff g rfl).1
  have hp1 : w1.heap[p]? = w.heap[p]? := hg.block p hplt (fun e => (hei.2 p e.symm).2.1 rfl)
  have hg1 : w1.heap[g]? = w.heap[g]? := hg.block g hglt (fun e => (hei.2 g e.symm).2.2 rfl)
  have hT1 : Turn Fp w w1 := Turn.of_grownBy hg (fun k hk => .inl (hei.2 k hk).1)
  have hlen : n = is.length := by
    obtain ⟨ad, c', e, _⟩ := slice2 h.row rfl
    cases e; rfl
  subst hlen
  have hv' : ∀ g', v'.ownBlock = some g' → grow Fp w w1 g' ∧ g' ≠ p ∧ g' ≠ g := by
    intro g' hgo
    have hlt := (ho.lt g' hgo).2
    rcases hat with e | e
    · rw [e] at hgo
      have := hei.2 g' hgo
      exact ⟨.inl this.1, this.2.1, fun e' => this.2.2 (by rw [e']; rfl)⟩
    · rw [e] at hgo
      cases hgo
      exact ⟨.inr ⟨Nat.le_refl _, hlt⟩, by omega, by omega⟩
  refine ⟨?_, hT1.trans (turn_setCell w1 g _ _) (fun i _ hi => by subst hi; exact (h.ff _ rfl).1)⟩
  refine { c0 := by rw [World.cell?_setCell_other _ _ _ _ (by intro e; have := congrArg Addr.block e; simp only at this; omega), World.cell?_of_block hp1]; exact h.c0, c1 := by rw [World.cell?_setCell_other _ _ _ _ (by intro e; have := congrArg Addr.block e; simp only at this; omega), World.cell?_of_block hp1]; exact h.c1,
           c2 := by rw [World.cell?_setCell_other _ _ _ _ (by intro e; have := congrArg Addr.block e; simp only at this; omega), World.cell?_of_block hp1]; exact h.c2, f0 := by rw [World.frozen?_setCell, World.frozen?_of_block hp1]; exact h.f0, f1 := by rw [World.frozen?_setCell, World.frozen?_of_block hp1]; exact h.f1,
           f2 := by rw [World.frozen?_setCell, World.frozen?_of_block hp1]; exact h.f2, row := ?_, each := ?_, apart := ?_, ff := fun g' hg' => ⟨.inl (h.ff g' hg').1, (h.ff g' hg').2⟩, fp := .inl h.fp, lt := ?_ }
  · have hr1 : w1.ownsRow 0 51 2 (.slice (some ⟨g, 0, none⟩) is.length c) is.length (flat2 is) := ownsRow_move2 (w := w) h.row (fun g' hg' => by cases hg'; exact hg1)
    rw [List.length_set, flat2_set is k 1 i ⟨i.name, v', bs'⟩ v' hk (by omega) (by simp [It.cells])]
    exact (hr1.stored _ _).1
  · intro b hb
    obtain ⟨j, hj⟩ := List.getElem?_of_mem hb
    by_cases hjk : j = k
    · subst hjk
      have hb2 : b = ⟨i.name, v', bs'⟩ := by
        rw [List.getElem?_set_self (List.getElem?_eq_some_iff.1 hk).1] at hj
        cases hj; rfl
      subst hb2
      refine ⟨ownsRow_move2 ho (fun g' hgo => Below.heap_setCell _ _ _ _ (fun e => (hv' g' hgo).2.2 (by simpa using e))), fun g' hgo => ⟨(hv' g' hgo).1, (hv' g' hgo).2.1, fun e => (hv' g' hgo).2.2 (by cases e; rfl)⟩⟩
    · rw [List.getElem?_set_ne (fun e => hjk e.symm)] at hj
      have heb := h.each b (List.mem_of_getElem? hj)
      refine ⟨ownsRow_move2 (w := w) heb.1 (fun g' hgo => ?_), fun g' hgo => ⟨.inl (heb.2 g' hgo).1, (heb.2 g' hgo).2⟩⟩
      rw [Below.heap_setCell _ _ _ _ (fun e => (heb.2 g' hgo).2.2 (by simp only at e; rw [e]; rfl))]
      exact hg.block g' (h.lt g' (heb.2 g' hgo).1) (fun e => h.apart_ne hjk hj hk g' hgo e.symm)
  · refine pairwise_set (fun a b hab g' hb ha => hab g' ha hb) h.apart k _ (fun j b hj hb g' hg' hg2 => ?_)
    rcases hat with e | e
    · simp only at hg'
      rw [e] at hg'
      exact h.apart_ne hj hb hk g' hg2 hg'
    · simp only at hg'
      rw [e] at hg'
      cases hg'
      have := h.lt _ ((h.each b (List.mem_of_getElem? hb)).2 _ hg2).1
      omega
  · rintro k' (hk' | hk')
    · have := h.lt k' hk'
      have h2 := hg.size
      simp [World.setCell]
      omega
    · simpa [World.setCell] using hk'.2

end Go.Proofs.YtcbmofapnjdmgaaDoor
