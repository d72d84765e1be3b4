import Derived.Test.YtcbmofapnjdmgaaDoorDD27
import Derived.Test.YtcbmofapnjdmgaaDoorDD24
import Derived.Deep.Slices
/- Two disks beside a script in memory: what each step keeps. -/
namespace Go.Proofs.YtcbmofapnjdmgaaDoor
open Go.RowKit Go.Maps

theorem flat_get : ∀ (ops : List GOp) (k j : Nat) (o : GOp) (v : Value), ops[k]? = some o → o.cells.toList[j]? = some v → (flat ops)[k * 5 + j]? = some v := by
  intro ops
  induction ops with
  | nil => intro k j o v h; simp at h
  | cons a r ih =>
    intro k j o v h hj
    have hj5 : j < 5 := by have := (List.getElem?_eq_some_iff.1 hj).1; simpa [GOp.cells] using this
    have e : flat (a :: r) = a.cells.toList ++ flat r := by simp [flat]
    have l5 : a.cells.toList.length = 5 := by simp [GOp.cells]
    rw [e]
    cases k with
    | zero =>
      simp only [List.getElem?_cons_zero, Option.some.injEq] at h
      subst h
      rw [Nat.zero_mul, Nat.zero_add, List.getElem?_append_left (by omega)]
      exact hj
    | succ k =>
      rw [List.getElem?_append_right (by omega), l5, show (k + 1) * 5 + j - 5 = k * 5 + j by omega]
      exact ih k j o v (by simpa using h) hj

/-- the script's rows can be seen -/
def Seen (wr : World) (sa : Option Addr) (ops : List GOp) : Prop := ∀ k o, ops[k]? = some o → ∃ g, sa = some ⟨g, 0, none⟩ ∧ g < wr.heap.size ∧ ∀ j v, o.cells.toList[j]? = some v → wr.cell? ⟨g, k * 5 + j, none⟩ = some v

theorem Seen.turn {wr w' : World} {sa : Option Addr} {ops : List GOp} {X : Nat → Prop} (h : Seen wr sa ops) (hT : Turn X wr w') (hx : ∀ x, sa = some x → ¬ X x.block) : Seen w' sa ops := by
  intro k o ho
  obtain ⟨g, rfl, hg, hc⟩ := h k o ho
  exact ⟨g, rfl, Nat.lt_of_lt_of_le hg hT.size, fun j v hv => hT.cell (hc j v hv) (hx ⟨g, 0, none⟩ rfl)⟩

structure Two (w wr : World) (sa : Option Addr) (ops : List GOp) (p q : Nat) (D E : DG) (Fp Gp : Nat → Prop) : Prop where
  seen : Seen wr sa ops
  below : Below w.heap.size w wr
  hd : IsDisk wr p D Fp
  he : IsDisk wr q E Gp
  fp : ∀ k, Fp k → w.heap.size ≤ k ∧ ¬ Gp k
  gp : ∀ k, Gp k → w.heap.size ≤ k
  as1 : ∀ x, sa = some x → ¬ Fp x.block ∧ ¬ Gp x.block ∧ x.block < wr.heap.size

section
variable {w wr w' : World} {sa : Option Addr} {ops : List GOp} {p q : Nat} {D E D' E' : DG} {Fp Gp : Nat → Prop}

theorem Two.turn (h : Two w wr sa ops p q D E Fp Gp) {X : Nat → Prop} (hT : Turn X wr w') (hX : ∀ k, X k → w.heap.size ≤ k ∧ ¬ Fp k ∧ ¬ Gp k ∧ ∀ x, sa = some x → k ≠ x.block) : Two w w' sa ops p q D E Fp Gp where
  seen := h.seen.turn hT (fun x hx hk => (hX _ hk).2.2.2 x hx rfl)
  below := h.below.trans (hT.below h.below.size (fun k hk => (hX k hk).1))
  hd := h.hd.turn hT (fun k hk hx => (hX k hx).2.1 hk)
  he := h.he.turn hT (fun k hk hx => (hX k hx).2.2.1 hk)
  fp := h.fp
  gp := h.gp
  as1 := fun x hx => ⟨(h.as1 x hx).1, (h.as1 x hx).2.1, Nat.lt_of_lt_of_le (h.as1 x hx).2.2 hT.size⟩
theorem Two.grown (h : Two w wr sa ops p q D E Fp Gp) (hB : Below wr.heap.size wr w') : Two w w' sa ops p q D E Fp Gp := h.turn (Turn.of_below (fun _ => False) hB) (fun _ h => h.elim)
theorem Two.stepD (h : Two w wr sa ops p q D E Fp Gp) (hd : IsDisk w' p D' (grow Fp wr w')) (hT : Turn Fp wr w') : Two w w' sa ops p q D' E (grow Fp wr w') Gp where
  seen := h.seen.turn hT (fun x hx => (h.as1 x hx).1)
  below := h.below.trans (hT.below h.below.size (fun k hk => (h.fp k hk).1))
  hd := hd
  he := h.he.turn hT (fun k hk hf => (h.fp k hf).2 hk)
  fp := by
    rintro k (hk | hk)
    · exact h.fp k hk
    · have := h.below.size
      exact ⟨by omega, fun hg => by have := h.he.lt k hg; omega⟩
  gp := h.gp
  as1 := fun x hx => ⟨fun hk => hk.elim (h.as1 x hx).1 (fun hk => by have := (h.as1 x hx).2.2; omega), (h.as1 x hx).2.1, Nat.lt_of_lt_of_le (h.as1 x hx).2.2 hT.size⟩
theorem Two.stepE (h : Two w wr sa ops p q D E Fp Gp) (he : IsDisk w' q E' (grow Gp wr w')) (hT : Turn Gp wr w') : Two w w' sa ops p q D E' Fp (grow Gp wr w') where
  seen := h.seen.turn hT (fun x hx => (h.as1 x hx).2.1)
  below := h.below.trans (hT.below h.below.size (fun k hk => h.gp k hk))
  hd := h.hd.turn hT (fun k hk hg => (h.fp k hk).2 hg)
  he := he
  fp := fun k hk => ⟨(h.fp k hk).1, fun hg => hg.elim (h.fp k hk).2 (fun hg => by have := h.hd.lt k hk; omega)⟩
  gp := by
    rintro k (hk | hk)
    · exact h.gp k hk
    · have := h.below.size
      omega
  as1 := fun x hx => ⟨(h.as1 x hx).1, fun hk => hk.elim (h.as1 x hx).2.1 (fun hk => by have := (h.as1 x hx).2.2; omega), Nat.lt_of_lt_of_le (h.as1 x hx).2.2 hT.size⟩
/-- a copy of the second, made now, in the second's place, the second in the first's -/
theorem Two.copied (h : Two w wr sa ops p q D E Fp Gp) {r : Nat} {L : DG} (hc : IsDisk w' r L (grow (fun _ => False) wr w')) (hB : Below wr.heap.size wr w') : Two w w' sa ops q r E L Gp (grow (fun _ => False) wr w') where
  seen := (h.grown hB).seen
  below := (h.grown hB).below
  hd := (h.grown hB).he
  he := hc
  fp := fun k hk => ⟨h.gp k hk, fun hg => hg.elim False.elim (fun hg => by have := h.he.lt k hk; omega)⟩
  gp := by
    rintro k (hk | hk)
    · exact hk.elim
    · have := h.below.size
      omega
  as1 := fun x hx => ⟨(h.as1 x hx).2.1, fun hk => hk.elim False.elim (fun hk => by have := (h.as1 x hx).2.2; omega), Nat.lt_of_lt_of_le (h.as1 x hx).2.2 hB.size⟩
end

/-- the operations of a script, as they came in -/
def Fits (w : World) (ops : List GOp) : Prop := ∀ o ∈ ops, o.name.size ≤ maxLen ∧ o.to.size ≤ maxLen ∧ o.len ≤ o.cap ∧ (o.ad = none → o.len = 0 ∧ o.cap = 0) ∧ o.len ≤ 9223372036854775807 ∧ ∃ l, Bytes w o.ad o.len l

end Go.Proofs.YtcbmofapnjdmgaaDoor

/- A script that came in, opened: the operations, their names, their bytes. -/
namespace Go.Proofs.YtcbmofapnjdmgaaDoor
open Go.ChangeShapes Go.WideShapes Go.ChangeAt Go.RowKit Go.Maps

set_option maxRecDepth 20000 in
theorem bytes_cell {H : Type} {enc : TypeId × Value → H} {W : World} {fuel : Nat} {v : Value} {x : DataW H × List MemPlace} (hf : DataW.trod enc Tryd.prog W 0 (fun _ => true) true fuel 32 [v] = some x) :
    ∃ a n cap l, v = .slice a n cap ∧ Bytes W a n l ∧ n ≤ cap ∧ (a = none → n = 0 ∧ cap = 0) ∧ n ≤ maxLen := by
  rcases open_ints Tryd.underlying32 Tryd.underlying5 (by kernel_rfl) hf with ⟨hcs, _⟩ | ⟨x, n, cap, zs, hcs, _, hl, hm, hz, hx, hcell, hwz⟩
  · simp only [List.cons.injEq, and_true] at hcs
    subst hcs
    exact ⟨none, 0, 0, [], rfl, ⟨rfl, fun h0 => by omega⟩, Nat.le_refl _, fun _ => ⟨rfl, rfl⟩, Nat.zero_le _⟩
  · simp only [List.cons.injEq, and_true] at hcs
    subst hcs
    simp only [if_true] at hz
    refine ⟨some x, n, cap, (zs.take n).map (fun z => UInt8.ofNat z.toNat), rfl, ⟨by simp; omega, fun h0 => ?_⟩, hl, (fun h => by cases h), by omega⟩
    obtain ⟨b, off, spot⟩ := x
    have hc := hcell 0 (by omega)
    have hspot : spot = none := by simpa [Addr.add] using World.cell?_spot hc
    subst hspot
    refine ⟨b, off, rfl, fun i hi => ?_⟩
    have hci := hcell i (by omega)
    rw [Addr.add_lit] at hci
    rw [hci]
    have hb : 0 ≤ zs.getD i 0 ∧ zs.getD i 0 ≤ 255 := by
      rw [List.getD_eq_getElem?_getD]
      exact range_u8 hwz i
    have e : bt ((zs.take n).map (fun z => UInt8.ofNat z.toNat)) i = zs.getD i 0 := by
      unfold bt
      have e1 : ((zs.take n).map (fun z => UInt8.ofNat z.toNat)).getD i 0 = UInt8.ofNat (zs.getD i 0).toNat := by
        simp [List.getD, hi, show i < zs.length by omega]
      rw [e1, UInt8.toNat_ofNat']
      omega
    rw [e]

set_option maxRecDepth 20000 in
theorem ops_arg {H : Type} {enc : TypeId × Value → H} {W : World} {base : Nat} {v : Value} {d : DataW H} {ps : List MemPlace} (hok : Value.okWide Tryd.prog W .any base 22 v)
    (h : DataW.Trod enc Tryd.prog W 0 (fun _ => true) true 22 v d ps) :
    ∃ a n cap ops, v = .slice a n cap ∧ Ops W a n ops ∧ Fits W ops ∧ n ≤ 9223372036854775807 := by
  obtain ⟨a, n, cap, rfl⟩ := okWide_slice Tryd.underlying22 hok
  obtain ⟨fuel, hf⟩ := h
  rcases Deep.open_slice Tryd.underlying22 hf with ⟨hcs, _⟩ | ⟨x, len, c, m, j, D, Pl, hcs, _, hl, hmx, hm, hx, hel⟩
  · simp [Value.cells] at hcs
    obtain ⟨rfl, rfl, rfl⟩ := hcs
    exact ⟨none, 0, 0, [], rfl, ⟨rfl, fun k o ho => by simp at ho, fun o ho => by simp at ho⟩, fun o ho => by simp at ho, by omega⟩
  · simp [Value.cells] at hcs
    obtain ⟨rfl, rfl, rfl⟩ := hcs
    simp only [if_true] at hm
    have hcell : ∀ i, i < n → ∃ o : GOp, (∀ j v, o.cells.toList[j]? = some v → W.cell? (x.add (i * 5 + j)) = some v) ∧ o.name.size ≤ maxLen ∧ o.to.size ≤ maxLen ∧ o.len ≤ o.cap ∧ (o.ad = none → o.len = 0 ∧ o.cap = 0) ∧ o.len ≤ 9223372036854775807 ∧ ∃ l, Bytes W o.ad o.len l := by
      intro i hi
      obtain ⟨cs', hc1, hc2⟩ := hel i (by omega)
      rw [show Tryd.prog.cellsOf 34 = 5 from by kernel_rfl] at hc1
      obtain ⟨xs, fu, _, _, _, hxl, hfl⟩ := DataW.trod_struct Tryd.underlying34 hc2
      obtain ⟨_, hlen2, hget⟩ := World.cells?_some hc1
      have e3 : Tryd.prog.cellsOf 3 = 1 := by kernel_rfl
      have e9 : Tryd.prog.cellsOf 9 = 1 := by kernel_rfl
      have e22 : Tryd.prog.cellsOf 32 = 1 := by kernel_rfl
      match cs', hlen2, xs, hxl with
      | [z0, z1, z2, z3, z4], _, [y0, y1, y2, y3, y4], _ =>
        have f0 : DataW.trod enc Tryd.prog W 0 (fun _ => true) true fu 3 [z0] = some y0 := by simpa [e3] using hfl 0 _ rfl
        have f1 : DataW.trod enc Tryd.prog W 0 (fun _ => true) true fu 9 [z1] = some y1 := by simpa [e9] using hfl 1 _ rfl
        have f2 : DataW.trod enc Tryd.prog W 0 (fun _ => true) true fu 9 [z2] = some y2 := by simpa [e9] using hfl 2 _ rfl
        have f3 : DataW.trod enc Tryd.prog W 0 (fun _ => true) true fu 3 [z3] = some y3 := by simpa [e3] using hfl 3 _ rfl
        have f4 : DataW.trod enc Tryd.prog W 0 (fun _ => true) true fu 32 [z4] = some y4 := by simpa [e22] using hfl 4 _ rfl
        obtain ⟨k0, c0, _, _⟩ := DataW.trod_int Tryd.underlying3 f0
        obtain ⟨s1, c1, _, hs1⟩ := DataW.trod_string Tryd.underlying9 f1
        obtain ⟨s2, c2, _, hs2⟩ := DataW.trod_string Tryd.underlying9 f2
        obtain ⟨k3, c3, _, _⟩ := DataW.trod_int Tryd.underlying3 f3
        obtain ⟨a4, n4, cap4, l4, c4, hb4, hc4, hn4, hm4⟩ := bytes_cell f4
        simp only [List.cons.injEq, and_true] at c0 c1 c2 c3
        subst c0 c1 c2 c3 c4
        refine ⟨⟨k0, s1, s2, k3, a4, n4, cap4⟩, fun j v hj => ?_, hs1, hs2, hc4, hn4, by unfold maxLen at hm4; simp only; omega, l4, hb4⟩
        have hj5 : j < 5 := by have := (List.getElem?_eq_some_iff.1 hj).1; simpa [GOp.cells] using this
        have := hget j (by simpa using hj5)
        rw [Deep.add_add] at this
        rw [this]
        simpa [GOp.cells] using hj
    haveI : Inhabited GOp := ⟨⟨0, ⟨#[]⟩, ⟨#[]⟩, 0, none, 0, 0⟩⟩
    obtain ⟨g, hg⟩ := Deep.choose_lt hcell
    have hget : ∀ k o, ((List.range n).map g)[k]? = some o → k < n ∧ o = g k := by
      intro k o ho
      simp only [List.getElem?_map, Option.map_eq_some_iff] at ho
      obtain ⟨i, hi, rfl⟩ := ho
      have hk := (List.getElem?_eq_some_iff.1 hi).1
      rw [List.getElem?_range (by simpa using hk)] at hi
      cases hi
      exact ⟨by simpa using hk, rfl⟩
    have hmem : ∀ o ∈ (List.range n).map g, ∃ k, k < n ∧ o = g k := by
      intro o ho
      obtain ⟨k, hk, rfl⟩ := List.mem_map.1 ho
      exact ⟨k, by simpa using hk, rfl⟩
    refine ⟨some x, n, cap, (List.range n).map g, rfl, ⟨by simp, fun k o ho => ?_, fun o ho => ?_⟩, fun o ho => ?_, by unfold maxLen at hmx; omega⟩
    · obtain ⟨hk, rfl⟩ := hget k o ho
      have h1 := (hg k hk).1
      obtain ⟨b, off, spot⟩ := x
      have hc := (hg 0 (by omega)).1 0 _ (by simp [GOp.cells]; rfl)
      have hspot : spot = none := by simpa [Addr.add] using World.cell?_spot hc
      subst hspot
      refine ⟨b, off, rfl, fun j v hv => ?_⟩
      have := h1 j v hv
      rw [Addr.add_lit, ← Nat.add_assoc] at this
      exact this
    · obtain ⟨k, hk, rfl⟩ := hmem o ho
      obtain ⟨_, h1, h2, h3, h4, _, h6⟩ := hg k hk
      exact ⟨h1, h2, h3, h4, h6⟩
    · obtain ⟨k, hk, rfl⟩ := hmem o ho
      exact (hg k hk).2

end Go.Proofs.YtcbmofapnjdmgaaDoor
