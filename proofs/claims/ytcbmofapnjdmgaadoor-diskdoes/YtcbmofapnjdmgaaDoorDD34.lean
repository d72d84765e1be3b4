import Derived.Test.YtcbmofapnjdmgaaDoorDD33
import Derived.Test.YtcbmofapnjdmgaaDoorDD27
import Derived.Test.YtcbmofapnjdmgaaDoorDD08
/- What is done to a pair of disks: what the memory holds on the way, plain facts. -/
namespace Go.Proofs.YtcbmofapnjdmgaaDoor
open Go.RowKit Go.Maps

/-- limits of a disk of a script; not cut, nothing is left -/
structure Good (S : DG) (b : Nat) : Prop where
  fine : Fine S b
  l0 : S.cut = false → S.left = 0
  lm : S.left ≤ 9223372036854775807
theorem Good.more {S : DG} {b c : Nat} (h : Good S b) (hbc : b ≤ c) : Good S c := ⟨h.fine.more hbc, h.l0, h.lm⟩
theorem Good.fit {S : DG} {b : Nat} (h : Good S b) : Fit2 S := ⟨h.fine.n, h.fine.bs, h.l0⟩
/-- not cut, nothing is left; and no more than an int holds -/
def LOk (S : DG) : Prop := (S.cut = false → S.left = 0) ∧ S.left ≤ 9223372036854775807
theorem Good.ok {S : DG} {b : Nat} (h : Good S b) : LOk S := ⟨h.l0, h.lm⟩
theorem LOk.same {S T : DG} (h : LOk S) (h1 : T.cut = S.cut) (h2 : T.left = S.left) : LOk T := by unfold LOk; rw [h1, h2]; exact h
theorem LOk.done {S : DG} (h : LOk S) : LOk S.done := by
  refine ⟨fun hc => ?_, ?_⟩
  · have hc' : S.cut = false := hc
    show (if S.cut = true then S.left - 1 else S.left) = 0
    rw [h.1 hc']
    split <;> rfl
  · show (if S.cut = true then S.left - 1 else S.left) ≤ _
    have := h.2
    split <;> omega
theorem LOk.pieces : ∀ (k : Nat) (S : DG) (nm l : List UInt8), LOk S → LOk (pieces k S nm l).1 := by
  intro k
  induction k with
  | zero => intro S nm l h; exact h
  | succ k ih =>
    intro S nm l h
    unfold Go.Proofs.YtcbmofapnjdmgaaDoor.pieces
    split
    · split
      · exact h.done.same rfl rfl
      · exact ih _ _ _ (h.done.same rfl rfl)
    · exact h
theorem LOk.step {S : DG} (h : LOk S) (o : GOp) (l : List UInt8) : LOk (S.step o l).1 := by
  unfold DG.step
  split
  · unfold DG.app
    split
    · exact h
    · split
      · exact h
      · split
        · exact h
        · exact LOk.pieces _ _ _ _ h
  · split
    · unfold DG.trunc
      split
      · exact h
      · split
        · exact h
        · split
          · exact h
          · split
            · exact h.done.same rfl rfl
            · exact h
    · split
      · unfold DG.renam
        split
        · exact h
        · split
          · exact h
          · split
            · exact h
            · split
              · exact h.done.same rfl rfl
              · exact h
      · unfold DG.remove
        split
        · exact h
        · split
          · exact h.done.same rfl rfl
          · exact h
theorem Good.step {S : DG} {b : Nat} (h : Good S b) (o : GOp) (l : List UInt8) : Good (S.step o l).1 (b + 4194305) := ⟨h.fine.step o l, (h.ok.step o l).1, (h.ok.step o l).2⟩
theorem Good.trunc {S : DG} {b : Nat} (h : Good S b) (nm : ByteArray) (n : Int) : Good (S.trunc nm.data.toList n).1 (b + 4194305) := h.step ⟨1, nm, nm, n, none, 0, 0⟩ []
theorem Good.renam {S : DG} {b : Nat} (h : Good S b) (nm nt : ByteArray) : Good (S.renam nm.data.toList nt.data.toList).1 (b + 4194305) := h.step ⟨2, nm, nt, 0, none, 0, 0⟩ []
theorem Good.remove {S : DG} {b : Nat} (h : Good S b) (nm : ByteArray) : Good (S.remove nm.data.toList).1 (b + 4194305) := h.step ⟨3, nm, nm, 0, none, 0, 0⟩ []
theorem Good.app {S : DG} {b : Nat} (h : Good S b) (nm : ByteArray) (l : List UInt8) : Good (S.app nm.data.toList l).1 (b + 4194305) := h.step ⟨0, nm, nm, 0, none, 0, 0⟩ l
theorem Good.app1 {S : DG} {b : Nat} (h : Good S b) (nm : ByteArray) : Good (S.app nm.data.toList []).1 (b + 1) := by
  refine ⟨?_, (h.ok.step ⟨0, nm, nm, 0, none, 0, 0⟩ []).1, (h.ok.step ⟨0, nm, nm, 0, none, 0, 0⟩ []).2⟩
  have hm := h.fine.more (c := b + 1) (by omega)
  unfold DG.app
  split
  · exact hm
  · split
    · exact hm
    · next hn =>
      split
      · exact hm
      · exact Fine.pieces 1 S b _ [] h.fine (by have := h.fine.bs nm.data.toList; simp; omega) (fun hf => by
          have h1 : ¬ 256 ≤ S.n := fun h2 => hn (.inr ⟨hf, h2⟩)
          omega) (by simp)
theorem Good.cut {S : DG} {b : Nat} (h : Good S b) (n : Nat) (hn : n ≤ 9223372036854775807) : Good { S with cut := true, left := n } b := ⟨⟨h.fine.bs, h.fine.n, h.fine.wr⟩, fun e => by simp at e, hn⟩
theorem Good.mend {S : DG} {b : Nat} (h : Good S b) : Good { S with cut := false, left := 0 } b := ⟨⟨h.fine.bs, h.fine.n, h.fine.wr⟩, fun _ => rfl, Nat.zero_le _⟩
theorem Good.copy {S : DG} {b : Nat} (h : Good S b) : Good S.copy b := ⟨⟨h.fine.bs, h.fine.n, Nat.zero_le _⟩, fun _ => rfl, Nat.zero_le _⟩

/-- what is asked of an operation's arguments -/
structure OpIn (w : World) (o : GOp) (l : List UInt8) (Fp Gp : Nat → Prop) : Prop where
  name : o.name.size ≤ maxLen
  tsz : o.to.size ≤ maxLen
  cap : o.len ≤ o.cap
  nil : o.ad = none → o.len = 0 ∧ o.cap = 0
  len : o.len ≤ 140737488351232
  bytes : Bytes w o.ad o.len l
  ad : 0 < o.len → ∀ x, o.ad = some x → x.block < w.heap.size ∧ ¬ Fp x.block ∧ ¬ Gp x.block
  n : -9223372036854775808 ≤ o.n ∧ o.n ≤ 9223372036854775807

/-- the memory on the way of a step: what the program's disk holds, and the document's -/
structure DoP (w : World) (p q : Nat) (o : GOp) (l : List UInt8) (Fp Gp Fp' Gp' : Nat → Prop) (W : World) (S1 S2 : DG) : Prop where
  inn : OpIn w o l Fp Gp
  d : IsDisk W p S1 Fp'
  r : IsRef W q S2 Gp'
  dis : ∀ k, Fp' k → ¬ Gp' k
  turn : Turn (fun k => Fp k ∨ Gp k) w W
  sub : ∀ k, (Fp' k ∨ Gp' k) → Fp k ∨ Gp k ∨ w.heap.size + 2 ≤ k
  old : ∀ k, (Fp k ∨ Gp k) → k < w.heap.size
  size : w.heap.size + 2 ≤ W.heap.size
  cells : W.cell? ⟨w.heap.size, 0, none⟩ = some (.pointer (some ⟨p, 0, none⟩)) ∧ W.cell? ⟨w.heap.size, 1, none⟩ = some (.pointer (some ⟨q, 0, none⟩)) ∧ W.cell? ⟨w.heap.size + 1, 0, none⟩ = some (.int .i64 o.kind) ∧ W.cell? ⟨w.heap.size + 1, 1, none⟩ = some (.string o.name) ∧
    W.cell? ⟨w.heap.size + 1, 2, none⟩ = some (.string o.to) ∧ W.cell? ⟨w.heap.size + 1, 3, none⟩ = some (.int .i64 o.n) ∧ W.cell? ⟨w.heap.size + 1, 4, none⟩ = some (.slice o.ad o.len o.cap)
  bytes : Bytes W o.ad o.len l

theorem DoP.wide {w : World} {p q : Nat} {o : GOp} {l : List UInt8} {Fp Gp Fp' Gp' : Nat → Prop} {W : World} {S1 S2 : DG} (h : DoP w p q o l Fp Gp Fp' Gp' W S1 S2) {k : Nat} (hk : Fp' k ∨ Gp' k ∨ w.heap.size + 2 ≤ k) : Fp k ∨ Gp k ∨ w.heap.size + 2 ≤ k := by
  rcases hk with h1 | h1 | h1
  · exact h.sub k (.inl h1)
  · exact h.sub k (.inr h1)
  · exact .inr (.inr h1)
theorem DoP.turned {w : World} {p q : Nat} {o : GOp} {l : List UInt8} {Fp Gp Fp' Gp' Fp2 Gp2 X : Nat → Prop} {W W' : World} {S1 S2 T1 T2 : DG} (h : DoP w p q o l Fp Gp Fp' Gp' W S1 S2) (hT : Turn X W W') (hX : ∀ k, X k → Fp' k ∨ Gp' k ∨ w.heap.size + 2 ≤ k)
    (hd : IsDisk W' p T1 Fp2) (hr : IsRef W' q T2 Gp2) (dis : ∀ k, Fp2 k → ¬ Gp2 k) (hs : ∀ k, (Fp2 k ∨ Gp2 k) → Fp' k ∨ Gp' k ∨ W.heap.size ≤ k) : DoP w p q o l Fp Gp Fp2 Gp2 W' T1 T2 where
  inn := h.inn
  d := hd
  r := hr
  dis := dis
  turn := h.turn.trans hT (fun k hk hx => by
    rcases h.wide (hX k hx) with h1 | h1 | h1
    · exact .inl h1
    · exact .inr h1
    · omega)
  sub := fun k hk => by
    rcases hs k hk with h1 | h1 | h1
    · exact h.sub k (.inl h1)
    · exact h.sub k (.inr h1)
    · exact .inr (.inr (Nat.le_trans h.size h1))
  old := h.old
  size := Nat.le_trans h.size hT.size
  cells := by
    have hb : ∀ b o' u, w.heap.size ≤ b → b < w.heap.size + 2 → W.cell? ⟨b, o', none⟩ = some u → W'.cell? ⟨b, o', none⟩ = some u := fun b o' u h1 h2 hu =>
      hT.cell hu (fun hx => by
        rcases h.wide (hX b hx) with h3 | h3 | h3
        · have := h.old b (.inl h3); omega
        · have := h.old b (.inr h3); omega
        · omega)
    obtain ⟨c0, c1, c2, c3, c4, c5, c6⟩ := h.cells
    exact ⟨hb _ _ _ (Nat.le_refl _) (by omega) c0, hb _ _ _ (Nat.le_refl _) (by omega) c1, hb _ _ _ (by omega) (by omega) c2, hb _ _ _ (by omega) (by omega) c3, hb _ _ _ (by omega) (by omega) c4, hb _ _ _ (by omega) (by omega) c5, hb _ _ _ (by omega) (by omega) c6⟩
  bytes := hT.bytes h.bytes (fun h0 x hx hX' => by
    obtain ⟨h1, h2, h3⟩ := h.inn.ad h0 x hx
    rcases h.wide (hX _ hX') with h4 | h4 | h4
    · exact h2 h4
    · exact h3 h4
    · omega)
theorem DoP.below {w : World} {p q : Nat} {o : GOp} {l : List UInt8} {Fp Gp Fp' Gp' : Nat → Prop} {W W' : World} {S1 S2 : DG} (h : DoP w p q o l Fp Gp Fp' Gp' W S1 S2) (hB : Below W.heap.size W W') : DoP w p q o l Fp Gp Fp' Gp' W' S1 S2 := by
  obtain ⟨fs, is, left, hR, hM⟩ := h.r
  exact h.turned (Turn.of_below (fun _ => False) hB) (fun _ hk => hk.elim) (h.d.below hB) ⟨fs, is, left, hR.below hB, hM⟩ h.dis (fun k hk => hk.elim .inl (fun h => .inr (.inl h)))
theorem DoP.onD {w : World} {p q : Nat} {o : GOp} {l : List UInt8} {Fp Gp Fp' Gp' : Nat → Prop} {W W' : World} {S1 S2 T : DG} (h : DoP w p q o l Fp Gp Fp' Gp' W S1 S2) (hd : IsDisk W' p T (Go.Proofs.YtcbmofapnjdmgaaDoor.grow Fp' W W')) (hT : Turn Fp' W W') : DoP w p q o l Fp Gp (Go.Proofs.YtcbmofapnjdmgaaDoor.grow Fp' W W') Gp' W' T S2 :=
  h.turned hT (fun _ hk => .inl hk) hd (h.r.turn hT (fun k hk hf => h.dis k hf hk)) (fun k hk hg => hk.elim (fun h1 => h.dis k h1 hg) (fun h1 => by have := h.r.lt k hg; omega))
    (fun k hk => by
      rcases hk with (h1 | h1) | h1
      · exact .inl h1
      · exact .inr (.inr h1.1)
      · exact .inr (.inl h1))
theorem DoP.onR {w : World} {p q : Nat} {o : GOp} {l : List UInt8} {Fp Gp Fp' Gp' : Nat → Prop} {W W' : World} {S1 S2 T : DG} (h : DoP w p q o l Fp Gp Fp' Gp' W S1 S2) (hr : IsRef W' q T (Go.Proofs.YtcbmofapnjdmgaaDoor.grow Gp' W W')) (hT : Turn Gp' W W') : DoP w p q o l Fp Gp Fp' (Go.Proofs.YtcbmofapnjdmgaaDoor.grow Gp' W W') W' S1 T :=
  h.turned hT (fun _ hk => .inr (.inl hk)) (h.d.turn hT h.dis) hr (fun k hk hg => hg.elim (fun h1 => h.dis k hk h1) (fun h1 => by have := h.d.lt k hk; omega))
    (fun k hk => by
      rcases hk with h1 | h1 | h1
      · exact .inl h1
      · exact .inr (.inl h1)
      · exact .inr (.inr h1.1))
theorem DoP.start {w : World} {p q : Nat} {o : GOp} {l : List UInt8} {Fp Gp : Nat → Prop} {S : DG} (h : Pair2 w p q S Fp Gp) (hi : OpIn w o l Fp Gp) :
    DoP w p q o l Fp Gp Fp Gp ((w.alloc (.cells #[.pointer (some ⟨p, 0, none⟩), .pointer (some ⟨q, 0, none⟩)] 29)).alloc (.cells #[.int .i64 o.kind, .string o.name, .string o.to, .int .i64 o.n, .slice o.ad o.len o.cap] 34)) S S := by
  have hA : Below w.heap.size w (w.alloc (.cells #[.pointer (some ⟨p, 0, none⟩), .pointer (some ⟨q, 0, none⟩)] 29)) := (Below.refl _ w).alloc (Nat.le_refl _) _
  have hs : (w.alloc (.cells #[.pointer (some ⟨p, 0, none⟩), .pointer (some ⟨q, 0, none⟩)] 29)).heap.size = w.heap.size + 1 := by simp
  have hB := hA.alloc hA.size (.cells #[.int .i64 o.kind, .string o.name, .string o.to, .int .i64 o.n, .slice o.ad o.len o.cap] 34)
  have hP := h.below hB
  have hb : ∀ (j : Nat) u, (w.alloc (.cells #[.pointer (some ⟨p, 0, none⟩), .pointer (some ⟨q, 0, none⟩)] 29)).cell? ⟨w.heap.size, j, none⟩ = some u → ((w.alloc (.cells #[.pointer (some ⟨p, 0, none⟩), .pointer (some ⟨q, 0, none⟩)] 29)).alloc (.cells #[.int .i64 o.kind, .string o.name, .string o.to, .int .i64 o.n, .slice o.ad o.len o.cap] 34)).cell? ⟨w.heap.size, j, none⟩ = some u := fun j u hu => by
    have : Below (w.heap.size + 1) (w.alloc (.cells #[.pointer (some ⟨p, 0, none⟩), .pointer (some ⟨q, 0, none⟩)] 29)) ((w.alloc (.cells #[.pointer (some ⟨p, 0, none⟩), .pointer (some ⟨q, 0, none⟩)] 29)).alloc (.cells #[.int .i64 o.kind, .string o.name, .string o.to, .int .i64 o.n, .slice o.ad o.len o.cap] 34)) := (Below.refl _ _).alloc (by rw [hs]; exact Nat.le_refl _) _
    rw [this.cell (by simp)]; exact hu
  exact { inn := hi, d := hP.d, r := hP.r, dis := hP.dis, turn := Turn.of_below _ hB, sub := fun k hk => hk.elim .inl (fun h => .inr (.inl h)), old := fun k hk => hk.elim (h.d.lt k) (h.r.lt k), size := by simp
          cells := ⟨hb _ _ (by simp), hb _ _ (by simp), by rw [← hs]; simp, by rw [← hs]; simp, by rw [← hs]; simp, by rw [← hs]; simp, by rw [← hs]; simp⟩
          bytes := (Turn.of_below (fun _ => False) hB).bytes hi.bytes (fun _ _ _ => id) }
/-- .. whatever blocks they hold of by now -/
def DoI (w : World) (p q : Nat) (o : GOp) (l : List UInt8) (Fp Gp : Nat → Prop) (W : World) (S1 S2 : DG) : Prop := ∃ Fp' Gp', DoP w p q o l Fp Gp Fp' Gp' W S1 S2
theorem DoI.below {w : World} {p q : Nat} {o : GOp} {l : List UInt8} {Fp Gp : Nat → Prop} {W W' : World} {S1 S2 : DG} (h : DoI w p q o l Fp Gp W S1 S2) (hB : Below W.heap.size W W') : DoI w p q o l Fp Gp W' S1 S2 := by
  obtain ⟨F, G, h⟩ := h
  exact ⟨F, G, h.below hB⟩
theorem DoI.drew {w : World} {p q : Nat} {o : GOp} {l : List UInt8} {Fp Gp : Nat → Prop} {W : World} {S1 S2 : DG} (h : DoI w p q o l Fp Gp W S1 S2) : DoI w p q o l Fp Gp W.drew S1 S2 := h.below ⟨rfl, rfl, rfl, Nat.le_refl _, fun _ _ => rfl⟩
theorem DoI.cells {w : World} {p q : Nat} {o : GOp} {l : List UInt8} {Fp Gp : Nat → Prop} {W : World} {S1 S2 : DG} (h : DoI w p q o l Fp Gp W S1 S2) : W.cell? ⟨w.heap.size, 0, none⟩ = some (.pointer (some ⟨p, 0, none⟩)) ∧ W.cell? ⟨w.heap.size, 1, none⟩ = some (.pointer (some ⟨q, 0, none⟩)) ∧ W.cell? ⟨w.heap.size + 1, 0, none⟩ = some (.int .i64 o.kind) ∧ W.cell? ⟨w.heap.size + 1, 1, none⟩ = some (.string o.name) ∧
    W.cell? ⟨w.heap.size + 1, 2, none⟩ = some (.string o.to) ∧ W.cell? ⟨w.heap.size + 1, 3, none⟩ = some (.int .i64 o.n) ∧ W.cell? ⟨w.heap.size + 1, 4, none⟩ = some (.slice o.ad o.len o.cap) := by
  obtain ⟨F, G, h⟩ := h
  exact h.cells
theorem DoI.prog {w : World} {p q : Nat} {o : GOp} {l : List UInt8} {Fp Gp : Nat → Prop} {W : World} {S1 S2 T : DG} {F : FuncId} {args : Array Value} {v : Value} (h : DoI w p q o l Fp Gp W S1 S2)
    (hc : ∀ Fp', IsDisk W p S1 Fp' → Calls Tryd.prog F args W fun e w' => e = .returned v ∧ IsDisk w' p T (Go.Proofs.YtcbmofapnjdmgaaDoor.grow Fp' W w') ∧ Turn Fp' W w') : Calls Tryd.prog F args W fun e w' => ∃ u, e = .returned u ∧ (u = v ∧ DoI w p q o l Fp Gp w' T S2) := by
  obtain ⟨F', G', h⟩ := h
  exact (hc F' h.d).mono fun e w' ⟨h1, h2, h3⟩ => ⟨v, h1, rfl, _, _, h.onD h2 h3⟩
theorem DoI.refr {w : World} {p q : Nat} {o : GOp} {l : List UInt8} {Fp Gp : Nat → Prop} {W : World} {S1 S2 T : DG} {F : FuncId} {args : Array Value} {v : Value} (h : DoI w p q o l Fp Gp W S1 S2)
    (hc : ∀ Gp', IsRef W q S2 Gp' → Calls Tryd.prog F args W fun e w' => e = .returned v ∧ IsRef w' q T (Go.Proofs.YtcbmofapnjdmgaaDoor.grow Gp' W w') ∧ Turn Gp' W w') : Calls Tryd.prog F args W fun e w' => ∃ u, e = .returned u ∧ (u = v ∧ DoI w p q o l Fp Gp w' S1 T) := by
  obtain ⟨F', G', h⟩ := h
  exact (hc G' h.r).mono fun e w' ⟨h1, h2, h3⟩ => ⟨v, h1, rfl, _, _, h.onR h2 h3⟩
theorem DoI.file {w : World} {p q : Nat} {o : GOp} {l : List UInt8} {Fp Gp : Nat → Prop} {W : World} {S : DG} {b : Nat} (h : DoI w p q o l Fp Gp W S S) (hg : Good S b) (s : ByteArray) (hs : s.size ≤ maxLen) :
    Calls Tryd.prog 18 #[.agg #[.pointer (some ⟨p, 0, none⟩), .pointer (some ⟨q, 0, none⟩)], .string s] W fun e w' => ∃ u, e = .returned u ∧ (u = .bool true ∧ DoI w p q o l Fp Gp w' S S) := by
  obtain ⟨F', G', h⟩ := h
  exact (wfile_any p q S F' G' W ⟨h.d, h.r, h.dis⟩ s hs (hg.fine.bs _)).mono fun e w' ⟨h1, h2⟩ => ⟨_, h1, rfl, _, _, h.below h2⟩

/-- what a step leaves -/
def DoOut (w w' : World) (p q : Nat) (b : Nat) (Fp Gp : Nat → Prop) : Prop := ∃ T Fp' Gp', Good T b ∧ Pair2 w' p q T Fp' Gp' ∧ Turn (fun k => Fp k ∨ Gp k) w w' ∧ ∀ k, (Fp' k ∨ Gp' k) → Fp k ∨ Gp k ∨ w.heap.size ≤ k
theorem DoI.out {w : World} {p q : Nat} {o : GOp} {l : List UInt8} {Fp Gp : Nat → Prop} {W : World} {S : DG} {b : Nat} (h : DoI w p q o l Fp Gp W S S) (hg : Good S b) : DoOut w W p q b Fp Gp := by
  obtain ⟨F', G', h⟩ := h
  refine ⟨S, F', G', hg, ⟨h.d, h.r, h.dis⟩, h.turn, fun k hk => ?_⟩
  rcases h.sub k hk with h1 | h1 | h1
  · exact .inl h1
  · exact .inr (.inl h1)
  · exact .inr (.inr (by omega))

end Go.Proofs.YtcbmofapnjdmgaaDoor
