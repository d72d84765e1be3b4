import Derived.Test.YtdjodigimhgklaaGreatDoorN06
import Derived.Test.YtdjodigimhgklaaGreatDoorN03
import Derived.Deep.RegionHeld3
import Derived.Laws.AppendOwnNone
/- The walks of withRoom (a copy of bytes with room behind them), of Read and of Raw. -/
namespace Go.Proofs.YtdjodigimhgklaaGreatDoor
open Go.RowKit


/-- make with a length and a greater capacity, elements of one cell: the new row, whole -/
theorem wpList_make_part {P : Program} (w : World) {ops : Array Oper} {rest : List Oper} {o : Oper} {a : Act} {Q : Exit → Act → World → Prop}
    (hg : o.guard = none) (l c : Operand) (t : TypeId) (hop : o.op = Op.makeSlice t l c)
    (e : TypeId) (i : TypeInfo) (z : Value) (h1 : P.underlying t = some (.slice e)) (h2 : P.info? e = some i) (h3 : i.zero = some z) (h4 : i.size = 1) (h5 : i.bytes = 1)
    (kl kc : IntKind) (n m : Nat) (L C : Int) (hl : a.eval l = .int kl L) (hc : a.eval c = .int kc C) (hL : L = (n : Int)) (hC : C = (m : Int)) (hnm : n ≤ m) (b2 : m ≤ 281474976710656)
    (hK : ∀ w1, Hid (w1.heap[w.heap.size]? = some (.cells (madeCells z.cells m) e (0, 0))) → Below w.heap.size w w1 → wpList P ops Q rest (a.put o.dst (.slice (some ⟨w.heap.size, 0, none⟩) n m)) w1) :
    wpList P ops Q (o :: rest) a w := by
  refine wpList_plain hg fun K hK' => ?_
  have hrun := run_make (P := P) w t e i z h1 h2 h3 kl kc L C (by omega) (by omega) (by rw [h5]; omega) (by omega)
  subst hL
  subst hC
  simp only [h4, Nat.mul_one, Int.toNat_natCast] at hrun
  unfold Oper.wp
  simp [execOp, hop, hl, hc, hrun, Result.andThen]
  exact hK' _ _ (hK _ (heap_alloc_new w _) ((Below.refl _ _).alloc (Nat.le_refl _) _))

theorem grownBy_of_below {w w' : World} (h : Below w.heap.size w w') : w.grownBy w' none := ⟨h.os, h.tape, h.output, h.size, fun k hk _ => h.block k hk⟩

theorem size_made (z : Array Value) (n : Nat) : (madeCells z n).toList.length = n := by rw [Array.length_toList, size_madeCells]

/-- copy into a row just made: the row holds the bytes -/
theorem copy_fill (w w1 : World) (a : Option Addr) (n cap m : Nat) (l : List UInt8) (z : Array Value) (hb : Bytes w a n l) (hnm : n ≤ m) (hm : m ≤ maxLen)
    (hg : w1.heap[w.heap.size]? = some (.cells (madeCells z m) 5 (0, 0))) (hB : Below w.heap.size w w1) :
    ∃ w2, (Builtin.copy_ #[33, 33] 3 #[.slice (some ⟨w.heap.size, 0, none⟩) n m, .slice a n cap]).run Tryz.prog w1 = .ok (goInt n) w2 ∧
      w2.ownsRow w.heap.size 5 1 (.slice (some ⟨w.heap.size, 0, none⟩) n m) n (cellsOf l) ∧ w.grownBy w2 none := by
  obtain ⟨i0, hi, hz0, hz1, hz2⟩ := info_parts Tryz.info5
  have hu := Tryz.underlying33
  have hsz : (Tryz.prog.info? 5).map (·.size) = some 1 := by rw [hi]; simp [hz1]
  have hll : (cellsOf l).length = n := by rw [cellsOf_length, hb.1]
  by_cases h0 : n = 0
  · subst h0
    refine ⟨w1, run_copy_none (P := Tryz.prog) w1 33 33 3 5 _ a 0 m 0 cap hu hsz rfl, ⟨by rw [hll], .inr ⟨w.heap.size, m, _, rfl, Nat.le_refl _, hg, by omega, hm, by rw [size_madeCells]; omega, ?_⟩⟩, grownBy_of_below hB⟩
    have : cellsOf l = [] := List.eq_nil_of_length_eq_zero hll
    rw [this]; simp
  · obtain ⟨b, off, rfl, hc⟩ := hb.2 (by omega)
    have hsrc : ∀ j v, (cellsOf l)[j]? = some v → w1.cell? ((⟨b, off, none⟩ : Addr).add j) = some v := by
      intro j v hj
      have hjl : j < n := by have := (List.getElem?_eq_some_iff.1 hj).1; omega
      rw [cellsOf_get l j (by rw [hb.1]; exact hjl)] at hj
      have hold' : w.cell? ⟨b, off + j, none⟩ = some v := by rw [hc j hjl]; exact hj
      rw [Addr.add_lit, hB.cell (World.block_lt_of_cell? w _ hold')]
      exact hold'
    have hrun := run_copy_row (P := Tryz.prog) w1 33 33 3 5 w.heap.size 0 n m ⟨b, off, none⟩ n cap (madeCells z m) 5 (cellsOf l) hu hsz hg (by rw [hll]; exact (Nat.min_self n).symm) hsrc (by rw [hll, size_madeCells]; omega) (cellsOf_one l)
    refine ⟨_, by rw [hrun, hll], ⟨by rw [hll]; omega, .inr ⟨w.heap.size, m, _, rfl, Nat.le_refl _, setRow_heap w1 _ _ _ _ _ hg, by omega, hm, ?_, ?_⟩⟩, grownBy_of_below (below_setRow hB (Nat.le_refl _) _)⟩
    · simp [size_madeCells, hll]; omega
    · simp [← hll]

set_option maxHeartbeats 400000 in
theorem withRoom_any (a : Option Addr) (n cap more : Nat) (l : List UInt8) (w : World) (hb : Bytes w a n l) (hm : n + more ≤ 281474976710656) :
    Calls Tryz.prog 148 #[.slice a n cap, .int .i64 more] w fun e w' => e = .returned (.slice (some ⟨w.heap.size, 0, none⟩) n (n + more)) ∧
      w'.ownsRow w.heap.size 5 1 (.slice (some ⟨w.heap.size, 0, none⟩) n (n + more)) n (cellsOf l) ∧ w.grownBy w' none := by
  obtain ⟨i0, hi, hz0, hz1, hz2⟩ := info_parts Tryz.info5
  have hu := Tryz.underlying33
  go_enter Tryz.func148, Tryz.ntmps148
  go_wp2_with (at_make; refine wpList_make_part _ rfl _ _ 33 rfl 5 i0 (.int .u8 0) hu hi hz0 hz1 hz2 _ _ n (n + more) _ _ rfl rfl rfl (by omega) (by omega) hm ?_; intro w1 hg1 hb1; obtain ⟨w2, hcp, hfin⟩ := copy_fill w w1 a n cap (n + more) l _ hb (by omega) (by unfold maxLen; omega) hg1.out hb1)
  go_ret
  exact ⟨rfl, hfin⟩

/-- a row that is owned, as bytes -/
theorem ownsRow_bytes {w : World} {B g n cap : Nat} {l : List UInt8} (h : w.ownsRow B 5 1 (.slice (some ⟨g, 0, none⟩) n cap) n (cellsOf l)) : Bytes w (some ⟨g, 0, none⟩) n l ∧ B ≤ g ∧ g < w.heap.size := by
  have hll : l.length = n := by have := h.1; rw [cellsOf_length] at this; omega
  refine ⟨⟨hll, fun _ => ⟨g, 0, rfl, fun i hi => ?_⟩⟩, h.lt g rfl⟩
  have := h.cells (g := g) rfl i _ (cellsOf_get l i (by omega))
  rw [Addr.add_lit] at this
  exact this

set_option maxHeartbeats 400000 in
theorem oread_any (a : Option Addr) (n cap : Nat) (l : List UInt8) (w : World) (hb : Bytes w a n l) (hm : n ≤ 281474976710656) :
    Calls Tryz.prog 113 #[.slice a n cap] w fun e w' => ∃ r g, e = .returned (.pointer (some ⟨r, 0, none⟩)) ∧ w.heap.size ≤ r ∧ w.heap.size ≤ g ∧ Rd w' r g 0 0 l ∧ w.grownBy w' none := by
  go_enter Tryz.func113, Tryz.ntmps113
  go_wp2_with fail
  refine (withRoom_any a n cap 0 l w hb (by omega)).mono ?_
  rintro e w1 ⟨rfl, hown, hg⟩
  go_wp2
  go_ret
  have hll : l.length = n := hb.1
  obtain ⟨hby, _, hlt⟩ := ownsRow_bytes hown
  have hlt' : w.heap.size < w1.heap.size := hlt
  refine ⟨w1.heap.size, w.heap.size, rfl, hg.size, Nat.le_refl _, ?_, grownBy_trans hg (World.grownBy_alloc _ _ _)⟩
  refine ⟨?_, ?_, ?_, ?_, ?_, by omega, by unfold maxLen; omega, by omega, fun i hi => ?_⟩
  · simp
  · simp
  · simp [hll]
  · simp
  · simp
  · obtain ⟨b, off, hb1, hc⟩ := hby.2 (by omega)
    simp only [Option.some.injEq, Addr.mk.injEq, and_true] at hb1
    obtain ⟨rfl, rfl⟩ := hb1
    have := hc i (by omega)
    rw [Nat.zero_add] at this
    exact (World.grownBy_alloc w1 _ none).cell this (by simp)

end Go.Proofs.YtdjodigimhgklaaGreatDoor

/- A file of the disk gets new bytes: the row that append leaves, the store into the map, and what the disk is then. -/
namespace Go.Proofs.YtdjodigimhgklaaGreatDoor
open Go.RowKit Go.Maps

theorem keyed : Keyed Tryz.prog 9 := string_keyed Tryz.underlying9
theorem zeroSlice (w : World) : (zeroValue 33).run Tryz.prog w = .ok (.slice none 0 0) w := by kernel_rfl
theorem keyOfS (s : ByteArray) (hs : s.size ≤ maxLen) : keyOf Tryz.prog 9 (.string s) = some (.string s.data.toList) := WideMaps.keyOf_string_mk (P := Tryz.prog) Tryz.underlying9 hs

/-- append of bytes to a row that is owned: what it is, and where it lies -/
theorem run_append_row (w : World) (ty : TypeId) (v : Value) (n : Nat) (xs : List Value) (hown : w.ownsRow 0 5 1 v n xs) (ad : Option Addr) (m c : Nat) (l : List UInt8) (hb : Bytes w ad m l) (hnil : ad = none → m = 0 ∧ c = 0) (hm : n + m ≤ 140737488355328) :
    ∃ v' w', (Builtin.append_ #[33, 33] ty #[v, .slice ad m c]).run Tryz.prog w = .ok v' w' ∧ w'.ownsRow 0 5 1 v' (n + m) (xs ++ cellsOf l) ∧ w.grownBy w' v.ownBlock ∧ (v'.ownBlock = v.ownBlock ∨ v'.ownBlock = some w.heap.size) := by
  obtain ⟨i0, hi, hz0, hz1, hz2⟩ := info_parts Tryz.info5
  cases ad with
  | none =>
    obtain ⟨rfl, rfl⟩ := hnil rfl
    have hl : l = [] := List.eq_nil_of_length_eq_zero hb.1
    subst hl
    exact ⟨v, w, run_append_owned_none (P := Tryz.prog) (w := w) 0 33 ty 5 i0 1 Tryz.underlying33 hi v n xs hown, by simpa [cellsOf] using hown, ⟨rfl, rfl, rfl, Nat.le_refl _, fun _ _ _ => rfl⟩, .inl rfl⟩
  | some ad =>
    obtain ⟨v', w', h1, h2, h3, _, h5⟩ := run_append_own_at (P := Tryz.prog) w 0 33 ty 5 i0 (.int .u8 0) 1 1 Tryz.underlying33 hi hz0 hz1 hz2 rfl (by omega) v n xs hown ad m c (cellsOf l) (by rw [cellsOf_length, hb.1]; omega) (by
      intro j u hj
      have hjl : j < l.length := by have := (List.getElem?_eq_some_iff.1 hj).1; rw [cellsOf_length] at this; exact this
      have hl := hb.1
      obtain ⟨b, off, hx', hc⟩ := hb.2 (by omega)
      obtain rfl := Option.some.inj hx'
      rw [cellsOf_get l j hjl] at hj
      rw [Addr.add_lit, hc j (by omega)]
      exact hj) (cellsOf_one l) (by unfold maxLen; omega) (by omega) (Nat.zero_le _)
    exact ⟨v', w', h1, h2, h3, h5⟩

theorem wp_append_row (w : World) {o : Oper} {a : Act} {K : Act → World → Prop} {Q : Exit → Act → World → Prop} (s x : Operand)
    (ho : o.op = .call { callee := .builtin .append, args := #[s, x], argTypes := #[33, 33] })
    (v : Value) (n : Nat) (xs : List Value) (hs : a.eval s = v) (hown : w.ownsRow 0 5 1 v n xs) (ad : Option Addr) (m c : Nat) (l : List UInt8) (hx : a.eval x = .slice ad m c) (hb : Bytes w ad m l) (hnil : ad = none → m = 0 ∧ c = 0) (hm : n + m ≤ 140737488355328)
    (h : ∀ v' w', w'.ownsRow 0 5 1 v' (n + m) (xs ++ cellsOf l) → w.grownBy w' v.ownBlock → (v'.ownBlock = v.ownBlock ∨ v'.ownBlock = some w.heap.size) → K (a.put o.dst v') w') : o.wp Tryz.prog a w K Q := by
  obtain ⟨v', w', hr, h2, h3, h4⟩ := run_append_row w o.type v n xs hown ad m c l hb hnil hm
  unfold Oper.wp execOp
  simp only [ho, resolve, invoke, builtin, Sem.run_bind, Sem.run_pure, Result.andThen_ok, List.map_toArray, List.map_cons, List.map_nil, hs, hx, hr]
  exact h v' w' h2 h3 h4

theorem wpList_append_row (w : World) {ops : Array Oper} {rest : List Oper} {o : Oper} {a : Act} {Q : Exit → Act → World → Prop} (hgd : o.guard = none) (s x : Operand)
    (ho : o.op = .call { callee := .builtin .append, args := #[s, x], argTypes := #[33, 33] })
    (v : Value) (n : Nat) (xs : List Value) (hs : a.eval s = v) (hown : w.ownsRow 0 5 1 v n xs) (ad : Option Addr) (m c : Nat) (l : List UInt8) (hx : a.eval x = .slice ad m c) (hb : Bytes w ad m l) (hnil : ad = none → m = 0 ∧ c = 0) (hm : n + m ≤ 140737488355328)
    (h : ∀ v' w', w'.ownsRow 0 5 1 v' (n + m) (xs ++ cellsOf l) → w.grownBy w' v.ownBlock → (v'.ownBlock = v.ownBlock ∨ v'.ownBlock = some w.heap.size) → wpList Tryz.prog ops Q rest (a.put o.dst v') w') : wpList Tryz.prog ops Q (o :: rest) a w :=
  wpList_plain hgd fun _ hK => wp_append_row w s x ho v n xs hs hown ad m c l hx hb hnil hm fun v' w' h2 h3 h4 => hK _ _ (h v' w' h2 h3 h4)

theorem step_append_row (w : World) {ops : Array Oper} {o : Oper} {a : Act} {K : Act → World → Prop} {Q : Exit → Act → World → Prop} {E : Prop} (hgd : o.guard = none) (s x : Operand)
    (ho : o.op = .call { callee := .builtin .append, args := #[s, x], argTypes := #[33, 33] })
    (v : Value) (n : Nat) (xs : List Value) (hs : a.eval s = v) (hown : w.ownsRow 0 5 1 v n xs) (ad : Option Addr) (m c : Nat) (l : List UInt8) (hx : a.eval x = .slice ad m c) (hb : Bytes w ad m l) (hnil : ad = none → m = 0 ∧ c = 0) (hm : n + m ≤ 140737488355328)
    (h : ∀ v' w', w'.ownsRow 0 5 1 v' (n + m) (xs ++ cellsOf l) → w.grownBy w' v.ownBlock → (v'.ownBlock = v.ownBlock ∨ v'.ownBlock = some w.heap.size) → K (a.put o.dst v') w') :
    if Region.wanted o (yielded ops a.tmps) = true then Oper.wp Tryz.prog o a w K Q else E := by
  have hw : Region.wanted o (yielded ops a.tmps) = true := by simp [Region.wanted, hgd]
  rw [if_pos hw]
  exact wp_append_row w s x ho v n xs hs hown ad m c l hx hb hnil hm h

/-- a file gets these bytes -/
def DG.set (S : DG) (l bs : List UInt8) : DG := { S with f := fun x => if x = l then some bs else S.f x, n := if (S.f l).isSome then S.n else S.n + 1 }

theorem keyLit (l : List UInt8) : WideAt.IsKeyLit (.string l) := trivial
theorem key_ne {l l' : List UInt8} (h : l' ≠ l) : (Lit.string l' : Lit) ≠ .string l := fun e => h (by cases e; rfl)

theorem ownsMap_tight {w : World} {b n : Nat} {M : DataW Value} (h : w.ownsMap Tryz.prog 9 rv b n M) : w.ownsMap Tryz.prog 9 rv b (size M) M := by
  obtain ⟨es, clock, h1, h2, h3, rfl⟩ := h
  exact ⟨es, clock, h1, h2, by simp [size, length_sorted], rfl⟩

/-- what the map holds at a name -/
theorem DiskAt.value {w : World} {p b : Nat} {M : DataW Value} {S : DG} {Fp : Nat → Prop} (h : DiskAt w p b M S Fp) (l : List UInt8) :
    ∃ v, M.atKey (.string l) nils = .held v ∧ w.ownsRow 0 5 1 v ((S.f l).getD []).length (cellsOf ((S.f l).getD [])) ∧ (∀ g, v.ownBlock = some g → Fp g ∧ g ≠ p ∧ g ≠ b ∧ (S.f l).isSome = true) := by
  cases hf : S.f l with
  | none =>
    have := h.has l
    rw [hf] at this
    exact ⟨.slice none 0 0, atKey_of_not_has (by simpa using this) _, World.ownsRow_nil _ _ _ _, by simp [Value.ownBlock]⟩
  | some bs =>
    obtain ⟨v, h1, h2, h3⟩ := h.row l bs hf
    exact ⟨v, h1, h2, fun g hg => ⟨(h3 g hg).1, (h3 g hg).2.1, (h3 g hg).2.2, rfl⟩⟩

theorem ownsRow_rv {w : World} {B n : Nat} {v : Value} {xs : List Value} (h : w.ownsRow B 5 1 v n xs) : rv v = some (.held v, []) := by
  rcases h.2 with ⟨rfl, _⟩ | ⟨g, cap, cur, rfl, _⟩ <;> rfl

/-- no file but this one lies in that block -/
def Free (w : World) (p b : Nat) (M : DataW Value) (S : DG) (Fp : Nat → Prop) (nm : List UInt8) (v' : Value) : Prop :=
  ∀ g, v'.ownBlock = some g → (Fp g ∨ w.heap.size ≤ g) ∧ g ≠ p ∧ g ≠ b ∧ ∀ l u, l ≠ nm → (S.f l).isSome = true → M.atKey (.string l) nils = .held u → u.ownBlock ≠ some g

theorem DiskAt.free_new {w : World} {p b : Nat} {M : DataW Value} {S : DG} {Fp : Nat → Prop} (h : DiskAt w p b M S Fp) (nm : List UInt8) (v' : Value) (hnew : ∀ g, v'.ownBlock = some g → w.heap.size ≤ g) : Free w p b M S Fp nm v' := by
  intro g hg
  have hge := hnew g hg
  refine ⟨.inr hge, fun e => by have := h.lt p h.fp; omega, fun e => by have := h.lt b h.fb; omega, ?_⟩
  intro l u _ hl hu hgu
  obtain ⟨bs, hbs⟩ := Option.isSome_iff_exists.1 hl
  obtain ⟨u0, h1, h2, h3⟩ := h.row l bs hbs
  obtain rfl : u0 = u := by rw [h1] at hu; cases hu; rfl
  have := h.lt g (h3 g hgu).1
  omega
theorem DiskAt.free_same {w : World} {p b : Nat} {M : DataW Value} {S : DG} {Fp : Nat → Prop} (h : DiskAt w p b M S Fp) (nm : List UInt8) (v v' : Value) (hv : M.atKey (.string nm) nils = .held v) (hvo : ∀ g, v.ownBlock = some g → Fp g ∧ g ≠ p ∧ g ≠ b ∧ (S.f nm).isSome = true) (he : v'.ownBlock = v.ownBlock) : Free w p b M S Fp nm v' := by
  intro g hg
  rw [he] at hg
  have := hvo g hg
  exact ⟨.inl this.1, this.2.1, this.2.2.1, fun l u hne hl hu hgu => hne (h.apart l nm u v g hl this.2.2.2 hu hv hgu hg)⟩
theorem DiskAt.free_append {w : World} {p b : Nat} {M : DataW Value} {S : DG} {Fp : Nat → Prop} (h : DiskAt w p b M S Fp) (nm : List UInt8) (v v' : Value) (hv : M.atKey (.string nm) nils = .held v) (hvo : ∀ g, v.ownBlock = some g → Fp g ∧ g ≠ p ∧ g ≠ b ∧ (S.f nm).isSome = true) (hat : v'.ownBlock = v.ownBlock ∨ v'.ownBlock = some w.heap.size) : Free w p b M S Fp nm v' :=
  hat.elim (h.free_same nm v v' hv hvo) (fun e => h.free_new nm v' (fun g hg => by rw [e] at hg; cases hg; exact Nat.le_refl _))

theorem DiskAt.put {w w1 : World} {p b : Nat} {M : DataW Value} {S : DG} {Fp : Nat → Prop} (h : DiskAt w p b M S Fp) (s : ByteArray) (hs : s.size ≤ maxLen) (v v' : Value) (bs : List UInt8)
    (hv : M.atKey (.string s.data.toList) nils = .held v) (hvo : ∀ g, v.ownBlock = some g → Fp g ∧ g ≠ p ∧ g ≠ b ∧ (S.f s.data.toList).isSome = true) (hg : w.grownBy w1 v.ownBlock) (ho : w1.ownsRow 0 5 1 v' bs.length (cellsOf bs))
    (hat : Free w p b M S Fp s.data.toList v') (hn : S.n < maxLen) :
    ∃ w2, (Instr.mapUpdate 83 (.map (some b)) (.string s) v').run Tryz.prog w1 = .ok () w2 ∧ DiskAt w2 p b (M.put (.string s.data.toList) (.held v')) (S.set s.data.toList bs) (grow Fp w w2) ∧ Turn Fp w w2 := by
  have hblt := h.own.lt
  have hbk : some b ≠ v.ownBlock := fun e => (hvo b e.symm).2.2.1 rfl
  have own1 : w1.ownsMap Tryz.prog 9 rv b (size M) M := h.own.kept hg hbk
  obtain ⟨w2, hrun, own2, hg2⟩ := own1.update keyed Tryz.underlying83 (by rw [h.sz]; exact hn) (keyOfS s hs) (ownsRow_rv ho)
  have hT1 : Turn Fp w w1 := Turn.of_grownBy hg (fun k hk => .inl (hvo k hk).1)
  have hT : Turn Fp w w2 := hT1.trans (Turn.of_grownBy (Fp := fun k => k = b) hg2 (fun k hk => .inl (by cases hk; rfl))) (fun i _ hi => by subst hi; exact h.fb)
  have hm := h.own.isMap
  have htidy := h.own.tidy keyed
  have hv'lt : ∀ g, v'.ownBlock = some g → g < w1.heap.size := fun g hg' => (ho.lt g hg').2
  have hplt : p < w.heap.size := h.lt p h.fp
  have hp2 : w2.heap[p]? = w.heap[p]? := by
    rw [hg2.block p (Nat.lt_of_lt_of_le hplt hg.size) (by simpa using h.pb), hg.block p hplt (fun e => (hvo p e.symm).2.1 rfl)]
  have hrow2 : ∀ g, g ≠ b → g < w1.heap.size → w2.heap[g]? = w1.heap[g]? := fun g hg' hlt => hg2.block g hlt (by simpa using hg')
  have hv'b : ∀ g, v'.ownBlock = some g → g ≠ b ∧ g ≠ p ∧ grow Fp w w2 g := by
    intro g hg'
    have hf := hat g hg'
    exact ⟨hf.2.2.1, hf.2.1, hf.1.imp id (fun hge => ⟨hge, Nat.lt_of_lt_of_le (hv'lt g hg') hg2.size⟩)⟩
  refine ⟨w2, hrun, ?_, hT⟩
  refine { c0 := ?_, c1 := ?_, c2 := ?_, c3 := ?_, f1 := ?_, f2 := ?_, f3 := ?_, hl := h.hl, pb := h.pb, own := ownsMap_tight own2, sz := ?_, has := ?_, row := ?_, apart := ?_, fp := .inl h.fp, fb := .inl h.fb, lt := ?_ }
  · rw [World.cell?_of_block hp2]; exact h.c0
  · rw [World.cell?_of_block hp2]; exact h.c1
  · rw [World.cell?_of_block hp2]; exact h.c2
  · rw [World.cell?_of_block hp2]; exact h.c3
  · rw [World.frozen?_of_block hp2]; exact h.f1
  · rw [World.frozen?_of_block hp2]; exact h.f2
  · rw [World.frozen?_of_block hp2]; exact h.f3
  · rw [size_put htidy, h.has, h.sz]; rfl
  · intro l
    by_cases e : l = s.data.toList
    · subst e
      rw [has_put_same hm (keyLit _)]
      simp [DG.set]
    · rw [has_put_other (key_ne e), h.has]
      simp [DG.set, e]
  · intro l bs' hf
    by_cases e : l = s.data.toList
    · subst e
      simp only [DG.set, if_true, Option.some.injEq] at hf
      subst hf
      exact ⟨v', atKey_put_same hm (keyLit _) _ _, ownsRow_move ho (fun g hg' => hrow2 g (hv'b g hg').1 (hv'lt g hg')), fun g hg' => ⟨(hv'b g hg').2.2, (hv'b g hg').2.1, (hv'b g hg').1⟩⟩
    · simp only [DG.set, if_neg e] at hf
      obtain ⟨u, h1, h2, h3⟩ := h.row l bs' hf
      have hne : ∀ g, u.ownBlock = some g → some g ≠ v.ownBlock := fun g hg' e' => e (h.apart l s.data.toList u v g (by rw [hf]; rfl) (hvo g e'.symm).2.2.2 h1 hv hg' e'.symm)
      refine ⟨u, by rw [atKey_put_other (key_ne e)]; exact h1, ownsRow_move h2 (fun g hg' => ?_), fun g hg' => ⟨.inl (h3 g hg').1, (h3 g hg').2⟩⟩
      have hlt := h.lt g (h3 g hg').1
      rw [hrow2 g (h3 g hg').2.2 (Nat.lt_of_lt_of_le hlt hg.size), hg.block g hlt (hne g hg')]
  · intro l l' u u' g hl hl' hu hu' hg1 hg2'
    -- the block of the file that was written is another file's nowhere
    have key : ∀ l' u', l' ≠ s.data.toList → (S.f l').isSome = true → M.atKey (.string l') nils = .held u' → v'.ownBlock = some g → u'.ownBlock = some g → False := by
      intro l' u' e hl' hu' hgv hgu
      exact (hat g hgv).2.2.2 l' u' e hl' hu' hgu
    by_cases e : l = s.data.toList
    · by_cases e' : l' = s.data.toList
      · rw [e, e']
      · subst e
        rw [atKey_put_same hm (keyLit _)] at hu
        cases hu
        rw [atKey_put_other (key_ne e')] at hu'
        simp only [DG.set, if_neg e'] at hl'
        exact (key l' u' e' hl' hu' hg1 hg2').elim
    · by_cases e' : l' = s.data.toList
      · subst e'
        rw [atKey_put_same hm (keyLit _)] at hu'
        cases hu'
        rw [atKey_put_other (key_ne e)] at hu
        simp only [DG.set, if_neg e] at hl
        exact (key l u e hl hu hg2' hg1).elim
      · rw [atKey_put_other (key_ne e)] at hu
        rw [atKey_put_other (key_ne e')] at hu'
        simp only [DG.set, if_neg e] at hl
        simp only [DG.set, if_neg e'] at hl'
        exact h.apart l l' u u' g hl hl' hu hu' hg1 hg2'
  · rintro k (hk | ⟨_, hk⟩)
    · exact Nat.lt_of_lt_of_le (h.lt k hk) hT.size
    · exact hk

end Go.Proofs.YtdjodigimhgklaaGreatDoor
