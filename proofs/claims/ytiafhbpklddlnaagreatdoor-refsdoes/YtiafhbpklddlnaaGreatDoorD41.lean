import Derived.Test.YtiafhbpklddlnaaGreatDoorD40
/- What stands while the law's `same` goes through all refs: the count in a box, all else as it was. -/
namespace Go.Proofs.YtiafhbpklddlnaaGreatDoor
open Go.RowKit Go.Shelf Go.Maps

attribute [local go_sem] Oper.semAt_some

/-- the count in box c, all else as in X0 -/
def NumR (c : Nat) (X0 : World) (pre : List Ch) (f : Nat → Prop) (W : World) : Prop := Boxed W c 3 (.int .i64 (pre.length : Int)) ∧ Turn (fun k => k = c) X0 W ∧ ∀ k, f k ↔ k < X0.heap.size
theorem numR_apart {c : Nat} {X0 : World} (hc : c < X0.heap.size) : Apart (NumR c X0) :=
  ⟨fun _ _ _ _ ⟨h1, h2, h3⟩ ht => ⟨(ht.block c h1.lt (fun h => h ((h3 c).2 hc))).trans h1, h2.trans ht (fun k hk e => absurd ((h3 k).2 hk) e), h3⟩, fun _ _ _ ⟨_, h2, h3⟩ k hk => Nat.lt_of_lt_of_le ((h3 k).1 hk) h2.size⟩
/-- all as in X0 -/
def AsB (X0 : World) (_ : List Ch) (f : Nat → Prop) (W : World) : Prop := Below X0.heap.size X0 W ∧ ∀ k, f k ↔ k < X0.heap.size
theorem asB_apart (X0 : World) : Apart (AsB X0) :=
  ⟨fun _ _ _ _ ⟨h1, h3⟩ ht => ⟨h1.trans (ht.below h1.size (fun k hk => Nat.le_of_not_lt (fun e => hk ((h3 k).2 e)))), h3⟩, fun _ _ _ ⟨h2, h3⟩ k hk => Nat.lt_of_lt_of_le ((h3 k).1 hk) h2.size⟩
/-- left by c0, all as in X0 -/
def LeftB (c0 : Code) (X0 : World) (c : Code) (pre : List Ch) (f : Nat → Prop) (W : World) : Prop := c = c0 ∧ AsB X0 pre f W
theorem leftB_apart (c0 : Code) (X0 : World) (c : Code) : Apart (LeftB c0 X0 c) :=
  ⟨fun s f X Y ⟨h1, h2⟩ ht => ⟨h1, (asB_apart X0).1 s f X Y h2 ht⟩, fun s f X ⟨_, h2⟩ k hk => (asB_apart X0).2 s f X h2 k hk⟩

def dfsR (Ds : List Nat) : List Deferred := Ds.map fun D => { target := .collected D, args := #[] }
theorem below_putR {W : World} {B D : Nat} (o : Obj) (h : B ≤ D) : Below B W (W.putObj D o) := ⟨rfl, rfl, rfl, by simp, fun k hk => World.putObj_heap_other (by omega)⟩
theorem bool_ret_dsR {n k base p : Nat} {f : Func} {u : Value} {tmps : Array Value} {P : Ending → World → Prop} (hf : f.results = #[ResultVar.cell k 4]) (ha : tmps[k]?.getD undef = .pointer (some ⟨p, 0, none⟩)) (hpb : p < base) :
    ∀ (Ds : List Nat) (W : World), Boxed W p 4 u → Ds.Nodup → (∀ D ∈ Ds, base ≤ D ∧ W.heap[D]? = some (.deferred (some []))) → (∀ W', Below base W W' → P (.returned u) W') →
    bodyPostM Fence.wide n Tryz.prog f P Exit.ret { tmps := tmps, defers := dfsR Ds } W
  | [], W, hb, _, _, hP => by
    have c0 := hb.cell
    exact ⟨u, by simp [results, hf, go_sem, ha, c0], hP W (Below.refl _ _)⟩
  | D :: r, W, hb, hn, hD, hP => by
    obtain ⟨hD0, hK⟩ := hD D (by simp)
    have hB : Below base W (W.putObj D (.deferred none)) := below_putR _ hD0
    have ih := bool_ret_dsR (n := n) (P := P) hf ha hpb r (W.putObj D (.deferred none)) ((hB.block p hpb).trans hb) (List.nodup_cons.1 hn).2 (fun E hE => ⟨(hD E (by simp [hE])).1, by
      rw [World.putObj_heap_other (fun e => (List.nodup_cons.1 hn).1 (by rw [← e]; exact hE))]; exact (hD E (by simp [hE])).2⟩) (fun W' h => hP W' (hB.trans h))
    refine ⟨by simp, .inl ⟨_, _, rfl, run_takeDeferred hK, ?_⟩⟩
    exact ih
/-- the entries that ranges have left -/
def DsAt (w4 W : World) (Ds : List Nat) : Prop := w4.heap.size ≤ W.heap.size ∧ Below w4.heap.size w4 W ∧ Ds.Nodup ∧ ∀ D ∈ Ds, w4.heap.size ≤ D ∧ W.heap[D]? = some (.deferred (some []))
theorem DsAt.new (w4 : World) : DsAt w4 w4 [] := ⟨Nat.le_refl _, Below.refl _ _, List.nodup_nil, fun D h => by cases h⟩
theorem DsAt.below {w4 W X : World} {Ds : List Nat} (h : DsAt w4 W Ds) (hB : Below W.heap.size W X) : DsAt w4 X Ds := by
  obtain ⟨h1, h2, h3, h4⟩ := h
  exact ⟨Nat.le_trans h1 hB.size, h2.trans (hB.mono h1), h3, fun E hE => ⟨(h4 E hE).1, (hB.block E ((Array.getElem?_eq_some_iff.1 (h4 E hE).2).1)).trans (h4 E hE).2⟩⟩
theorem DsAt.push {w4 W X : World} {D : Nat} {Ds : List Nat} (h : DsAt w4 W Ds) (hB : Below W.heap.size W X) (hD : W.heap.size ≤ D) (hK : X.heap[D]? = some (.deferred (some []))) : DsAt w4 X (D :: Ds) := by
  obtain ⟨h1, h2, h3, h4⟩ := h
  have hlt : ∀ E ∈ Ds, E < W.heap.size := fun E hE => (Array.getElem?_eq_some_iff.1 (h4 E hE).2).1
  refine ⟨Nat.le_trans h1 hB.size, h2.trans (hB.mono h1), List.nodup_cons.2 ⟨fun hm => ?_, h3⟩, fun E hE => ?_⟩
  · have := hlt D hm; omega
  · rcases List.mem_cons.1 hE with rfl | hE
    · exact ⟨by omega, hK⟩
    · exact ⟨(h4 E hE).1, (hB.block E (hlt E hE)).trans (h4 E hE).2⟩
/-- a slice of texts -/
def StrsR (w : World) (a : Option Addr) (n : Nat) (l : List ByteArray) : Prop := l.length = n ∧ (0 < n → ∃ b off, a = some ⟨b, off, none⟩ ∧ ∀ (j : Nat) x, l[j]? = some x → w.cell? ⟨b, off + j, none⟩ = some (.string x))
end Go.Proofs.YtiafhbpklddlnaaGreatDoor
