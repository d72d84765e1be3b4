import Derived.Test.YtdjodigimhgklaaGreatDoorMC01
import Derived.Deep.RegionHeld3
import Derived.Laws.AppendOwnNone
/- A file of the disk gets new bytes: the row that append leaves, the store into the map, and what the disk is then. -/
namespace Go.Proofs.YtdjodigimhgklaaGreatDoor
open Go.RowKit Go.Maps

theorem keyed : Keyed Tryz.prog 9 := string_keyed Tryz.underlying9
theorem zeroSlice (w : World) : (zeroValue 33).run Tryz.prog w = .ok (.slice none 0 0) w := by kernel_rfl
theorem keyOfS (s : ByteArray) (hs : s.size ≤ maxLen) : keyOf Tryz.prog 9 (.string s) = some (.string s.data.toList) := WideMaps.keyOf_string_mk (P := Tryz.prog) Tryz.underlying9 hs

/-- append of bytes to a row that is owned: what it is, and where it lies -/
theorem run_append_row (w : World) (ty : TypeId) (v : Value) (n : Nat) (xs : List Value) (hown : w.ownsRow 0 5 1 v n xs) (ad : Option Addr) (m c : Nat) (l : List UInt8) (hb : Bytes w ad m l) (hnil : ad = none → m = 0 ∧ c = 0) (hm : n + m ≤ 140737488355328) :
    ∃ v' w', (Builtin.append_ #[33, 33] ty #[v, .slice ad m c]).run Tryz.prog w = .ok v' w' ∧ w'.ownsRow 0 5 1 v' (n + m) (xs ++ cellsOf l) ∧ w.grownBy w' v.ownBlock ∧ (v'.ownBlock = v.ownBlock ∨ v'.ownBlock = some w.heap.size) := by
  obtain ⟨i0, hi, hz0, hz1, hz2⟩ := info_parts Tryz.info5
  cases ad with
  | none =>
    obtain ⟨rfl, rfl⟩ := hnil rfl
    have hl : l = [] := List.eq_nil_of_length_eq_zero hb.1
    subst hl
    exact ⟨v, w, run_append_owned_none (P := Tryz.prog) (w := w) 0 33 ty 5 i0 1 Tryz.underlying33 hi v n xs hown, by simpa [cellsOf] using hown, ⟨rfl, rfl, rfl, Nat.le_refl _, fun _ _ _ => rfl⟩, .inl rfl⟩
  | some ad =>
    obtain ⟨v', w', h1, h2, h3, _, h5⟩ := run_append_own_at (P := Tryz.prog) w 0 33 ty 5 i0 (.int .u8 0) 1 1 Tryz.underlying33 hi hz0 hz1 hz2 rfl (by omega) v n xs hown ad m c (cellsOf l) (by rw [cellsOf_length, hb.1]; omega) (by
      intro j u hj
      have hjl : j < l.length := by have := (List.getElem?_eq_some_iff.1 hj).1; rw [cellsOf_length] at this; exact this
      have hl := hb.1
      obtain ⟨b, off, hx', hc⟩ := hb.2 (by omega)
      obtain rfl := Option.some.inj hx'
      rw [cellsOf_get l j hjl] at hj
      rw [Addr.add_lit, hc j (by omega)]
      exact hj) (cellsOf_one l) (by unfold maxLen; omega) (by omega) (Nat.zero_le _)
    exact ⟨v', w', h1, h2, h3, h5⟩

theorem wp_append_row (w : World) {o : Oper} {a : Act} {K : Act → World → Prop} {Q : Exit → Act → World → Prop} (s x : Operand)
    (ho : o.op = .call { callee := .builtin .append, args := #[s, x], argTypes := #[33, 33] })
    (v : Value) (n : Nat) (xs : List Value) (hs : a.eval s = v) (hown : w.ownsRow 0 5 1 v n xs) (ad : Option Addr) (m c : Nat) (l : List UInt8) (hx : a.eval x = .slice ad m c) (hb : Bytes w ad m l) (hnil : ad = none → m = 0 ∧ c = 0) (hm : n + m ≤ 140737488355328)
    (h : ∀ v' w', w'.ownsRow 0 5 1 v' (n + m) (xs ++ cellsOf l) → w.grownBy w' v.ownBlock → (v'.ownBlock = v.ownBlock ∨ v'.ownBlock = some w.heap.size) → K (a.put o.dst v') w') : o.wp Tryz.prog a w K Q := by
  obtain ⟨v', w', hr, h2, h3, h4⟩ := run_append_row w o.type v n xs hown ad m c l hb hnil hm
  unfold Oper.wp execOp
  simp only [ho, resolve, invoke, builtin, Sem.run_bind, Sem.run_pure, Result.andThen_ok, List.map_toArray, List.map_cons, List.map_nil, hs, hx, hr]
  exact h v' w' h2 h3 h4

theorem wpList_append_row (w : World) {ops : Array Oper} {rest : List Oper} {o : Oper} {a : Act} {Q : Exit → Act → World → Prop} (hgd : o.guard = none) (s x : Operand)
    (ho : o.op = .call { callee := .builtin .append, args := #[s, x], argTypes := #[33, 33] })
    (v : Value) (n : Nat) (xs : List Value) (hs : a.eval s = v) (hown : w.ownsRow 0 5 1 v n xs) (ad : Option Addr) (m c : Nat) (l : List UInt8) (hx : a.eval x = .slice ad m c) (hb : Bytes w ad m l) (hnil : ad = none → m = 0 ∧ c = 0) (hm : n + m ≤ 140737488355328)
    (h : ∀ v' w', w'.ownsRow 0 5 1 v' (n + m) (xs ++ cellsOf l) → w.grownBy w' v.ownBlock → (v'.ownBlock = v.ownBlock ∨ v'.ownBlock = some w.heap.size) → wpList Tryz.prog ops Q rest (a.put o.dst v') w') : wpList Tryz.prog ops Q (o :: rest) a w :=
  wpList_plain hgd fun _ hK => wp_append_row w s x ho v n xs hs hown ad m c l hx hb hnil hm fun v' w' h2 h3 h4 => hK _ _ (h v' w' h2 h3 h4)

theorem step_append_row (w : World) {ops : Array Oper} {o : Oper} {a : Act} {K : Act → World → Prop} {Q : Exit → Act → World → Prop} {E : Prop} (hgd : o.guard = none) (s x : Operand)
    (ho : o.op = .call { callee := .builtin .append, args := #[s, x], argTypes := #[33, 33] })
    (v : Value) (n : Nat) (xs : List Value) (hs : a.eval s = v) (hown : w.ownsRow 0 5 1 v n xs) (ad : Option Addr) (m c : Nat) (l : List UInt8) (hx : a.eval x = .slice ad m c) (hb : Bytes w ad m l) (hnil : ad = none → m = 0 ∧ c = 0) (hm : n + m ≤ 140737488355328)
    (h : ∀ v' w', w'.ownsRow 0 5 1 v' (n + m) (xs ++ cellsOf l) → w.grownBy w' v.ownBlock → (v'.ownBlock = v.ownBlock ∨ v'.ownBlock = some w.heap.size) → K (a.put o.dst v') w') :
    if Region.wanted o (yielded ops a.tmps) = true then Oper.wp Tryz.prog o a w K Q else E := by
  have hw : Region.wanted o (yielded ops a.tmps) = true := by simp [Region.wanted, hgd]
  rw [if_pos hw]
  exact wp_append_row w s x ho v n xs hs hown ad m c l hx hb hnil hm h

/-- a file gets these bytes -/
def DG.set (S : DG) (l bs : List UInt8) : DG := { S with f := fun x => if x = l then some bs else S.f x, n := if (S.f l).isSome then S.n else S.n + 1 }

theorem keyLit (l : List UInt8) : WideAt.IsKeyLit (.string l) := trivial
theorem key_ne {l l' : List UInt8} (h : l' ≠ l) : (Lit.string l' : Lit) ≠ .string l := fun e => h (by cases e; rfl)

theorem ownsMap_tight {w : World} {b n : Nat} {M : DataW Value} (h : w.ownsMap Tryz.prog 9 rv b n M) : w.ownsMap Tryz.prog 9 rv b (size M) M := by
  obtain ⟨es, clock, h1, h2, h3, rfl⟩ := h
  exact ⟨es, clock, h1, h2, by simp [size, length_sorted], rfl⟩

/-- what the map holds at a name -/
theorem DiskAt.value {w : World} {p b : Nat} {M : DataW Value} {S : DG} {Fp : Nat → Prop} (h : DiskAt w p b M S Fp) (l : List UInt8) :
    ∃ v, M.atKey (.string l) nils = .held v ∧ w.ownsRow 0 5 1 v ((S.f l).getD []).length (cellsOf ((S.f l).getD [])) ∧ (∀ g, v.ownBlock = some g → Fp g ∧ g ≠ p ∧ g ≠ b ∧ (S.f l).isSome = true) := by
  cases hf : S.f l with
  | none =>
    have := h.has l
    rw [hf] at this
    exact ⟨.slice none 0 0, atKey_of_not_has (by simpa using this) _, World.ownsRow_nil _ _ _ _, by simp [Value.ownBlock]⟩
  | some bs =>
    obtain ⟨v, h1, h2, h3⟩ := h.row l bs hf
    exact ⟨v, h1, h2, fun g hg => ⟨(h3 g hg).1, (h3 g hg).2.1, (h3 g hg).2.2, rfl⟩⟩

theorem ownsRow_rv {w : World} {B n : Nat} {v : Value} {xs : List Value} (h : w.ownsRow B 5 1 v n xs) : rv v = some (.held v, []) := by
  rcases h.2 with ⟨rfl, _⟩ | ⟨g, cap, cur, rfl, _⟩ <;> rfl

/-- no file but this one lies in that block -/
def Free (w : World) (p b : Nat) (M : DataW Value) (S : DG) (Fp : Nat → Prop) (nm : List UInt8) (v' : Value) : Prop :=
  ∀ g, v'.ownBlock = some g → (Fp g ∨ w.heap.size ≤ g) ∧ g ≠ p ∧ g ≠ b ∧ ∀ l u, l ≠ nm → (S.f l).isSome = true → M.atKey (.string l) nils = .held u → u.ownBlock ≠ some g

theorem DiskAt.free_new {w : World} {p b : Nat} {M : DataW Value} {S : DG} {Fp : Nat → Prop} (h : DiskAt w p b M S Fp) (nm : List UInt8) (v' : Value) (hnew : ∀ g, v'.ownBlock = some g → w.heap.size ≤ g) : Free w p b M S Fp nm v' := by
  intro g hg
  have hge := hnew g hg
  refine ⟨.inr hge, fun e => by have := h.lt p h.fp; omega, fun e => by have := h.lt b h.fb; omega, ?_⟩
  intro l u _ hl hu hgu
  obtain ⟨bs, hbs⟩ := Option.isSome_iff_exists.1 hl
  obtain ⟨u0, h1, h2, h3⟩ := h.row l bs hbs
  obtain rfl : u0 = u := by rw [h1] at hu; cases hu; rfl
  have := h.lt g (h3 g hgu).1
  omega
theorem DiskAt.free_same {w : World} {p b : Nat} {M : DataW Value} {S : DG} {Fp : Nat → Prop} (h : DiskAt w p b M S Fp) (nm : List UInt8) (v v' : Value) (hv : M.atKey (.string nm) nils = .held v) (hvo : ∀ g, v.ownBlock = some g → Fp g ∧ g ≠ p ∧ g ≠ b ∧ (S.f nm).isSome = true) (he : v'.ownBlock = v.ownBlock) : Free w p b M S Fp nm v' := by
  intro g hg
  rw [he] at hg
  have := hvo g hg
  exact ⟨.inl this.1, this.2.1, this.2.2.1, fun l u hne hl hu hgu => hne (h.apart l nm u v g hl this.2.2.2 hu hv hgu hg)⟩
theorem DiskAt.free_append {w : World} {p b : Nat} {M : DataW Value} {S : DG} {Fp : Nat → Prop} (h : DiskAt w p b M S Fp) (nm : List UInt8) (v v' : Value) (hv : M.atKey (.string nm) nils = .held v) (hvo : ∀ g, v.ownBlock = some g → Fp g ∧ g ≠ p ∧ g ≠ b ∧ (S.f nm).isSome = true) (hat : v'.ownBlock = v.ownBlock ∨ v'.ownBlock = some w.heap.size) : Free w p b M S Fp nm v' :=
  hat.elim (h.free_same nm v v' hv hvo) (fun e => h.free_new nm v' (fun g hg => by rw [e] at hg; cases hg; exact Nat.le_refl _))

theorem DiskAt.put {w w1 : World} {p b : Nat} {M : DataW Value} {S : DG} {Fp : Nat → Prop} (h : DiskAt w p b M S Fp) (s : ByteArray) (hs : s.size ≤ maxLen) (v v' : Value) (bs : List UInt8)
    (hv : M.atKey (.string s.data.toList) nils = .held v) (hvo : ∀ g, v.ownBlock = some g → Fp g ∧ g ≠ p ∧ g ≠ b ∧ (S.f s.data.toList).isSome = true) (hg : w.grownBy w1 v.ownBlock) (ho : w1.ownsRow 0 5 1 v' bs.length (cellsOf bs))
    (hat : Free w p b M S Fp s.data.toList v') (hn : S.n < maxLen) :
    ∃ w2, (Instr.mapUpdate 83 (.map (some b)) (.string s) v').run Tryz.prog w1 = .ok () w2 ∧ DiskAt w2 p b (M.put (.string s.data.toList) (.held v')) (S.set s.data.toList bs) (grow Fp w w2) ∧ Turn Fp w w2 := by
  have hblt := h.own.lt
  have hbk : some b ≠ v.ownBlock := fun e => (hvo b e.symm).2.2.1 rfl
  have own1 : w1.ownsMap Tryz.prog 9 rv b (size M) M := h.own.kept hg hbk
  obtain ⟨w2, hrun, own2, hg2⟩ := own1.update keyed Tryz.underlying83 (by rw [h.sz]; exact hn) (keyOfS s hs) (ownsRow_rv ho)
  have hT1 : Turn Fp w w1 := Turn.of_grownBy hg (fun k hk => .inl (hvo k hk).1)
  have hT : Turn Fp w w2 := hT1.trans (Turn.of_grownBy (Fp := fun k => k = b) hg2 (fun k hk => .inl (by cases hk; rfl))) (fun i _ hi => by subst hi; exact h.fb)
  have hm := h.own.isMap
  have htidy := h.own.tidy keyed
  have hv'lt : ∀ g, v'.ownBlock = some g → g < w1.heap.size := fun g hg' => (ho.lt g hg').2
  have hplt : p < w.heap.size := h.lt p h.fp
  have hp2 : w2.heap[p]? = w.heap[p]? := by
    rw [hg2.block p (Nat.lt_of_lt_of_le hplt hg.size) (by simpa using h.pb), hg.block p hplt (fun e => (hvo p e.symm).2.1 rfl)]
  have hrow2 : ∀ g, g ≠ b → g < w1.heap.size → w2.heap[g]? = w1.heap[g]? := fun g hg' hlt => hg2.block g hlt (by simpa using hg')
  have hv'b : ∀ g, v'.ownBlock = some g → g ≠ b ∧ g ≠ p ∧ grow Fp w w2 g := by
    intro g hg'
    have hf := hat g hg'
    exact ⟨hf.2.2.1, hf.2.1, hf.1.imp id (fun hge => ⟨hge, Nat.lt_of_lt_of_le (hv'lt g hg') hg2.size⟩)⟩
  refine ⟨w2, hrun, ?_, hT⟩
  refine { c0 := ?_, c1 := ?_, c2 := ?_, c3 := ?_, f1 := ?_, f2 := ?_, f3 := ?_, hl := h.hl, pb := h.pb, own := ownsMap_tight own2, sz := ?_, has := ?_, row := ?_, apart := ?_, fp := .inl h.fp, fb := .inl h.fb, lt := ?_ }
  · rw [World.cell?_of_block hp2]; exact h.c0
  · rw [World.cell?_of_block hp2]; exact h.c1
  · rw [World.cell?_of_block hp2]; exact h.c2
  · rw [World.cell?_of_block hp2]; exact h.c3
  · rw [World.frozen?_of_block hp2]; exact h.f1
  · rw [World.frozen?_of_block hp2]; exact h.f2
  · rw [World.frozen?_of_block hp2]; exact h.f3
  · rw [size_put htidy, h.has, h.sz]; rfl
  · intro l
    by_cases e : l = s.data.toList
    · subst e
      rw [has_put_same hm (keyLit _)]
      simp [DG.set]
    · rw [has_put_other (key_ne e), h.has]
      simp [DG.set, e]
  · intro l bs' hf
    by_cases e : l = s.data.toList
    · subst e
      simp only [DG.set, if_true, Option.some.injEq] at hf
      subst hf
      exact ⟨v', atKey_put_same hm (keyLit _) _ _, ownsRow_move ho (fun g hg' => hrow2 g (hv'b g hg').1 (hv'lt g hg')), fun g hg' => ⟨(hv'b g hg').2.2, (hv'b g hg').2.1, (hv'b g hg').1⟩⟩
    · simp only [DG.set, if_neg e] at hf
      obtain ⟨u, h1, h2, h3⟩ := h.row l bs' hf
      have hne : ∀ g, u.ownBlock = some g → some g ≠ v.ownBlock := fun g hg' e' => e (h.apart l s.data.toList u v g (by rw [hf]; rfl) (hvo g e'.symm).2.2.2 h1 hv hg' e'.symm)
      refine ⟨u, by rw [atKey_put_other (key_ne e)]; exact h1, ownsRow_move h2 (fun g hg' => ?_), fun g hg' => ⟨.inl (h3 g hg').1, (h3 g hg').2⟩⟩
      have hlt := h.lt g (h3 g hg').1
      rw [hrow2 g (h3 g hg').2.2 (Nat.lt_of_lt_of_le hlt hg.size), hg.block g hlt (hne g hg')]
  · intro l l' u u' g hl hl' hu hu' hg1 hg2'
    -- the block of the file that was written is another file's nowhere
    have key : ∀ l' u', l' ≠ s.data.toList → (S.f l').isSome = true → M.atKey (.string l') nils = .held u' → v'.ownBlock = some g → u'.ownBlock = some g → False := by
      intro l' u' e hl' hu' hgv hgu
      exact (hat g hgv).2.2.2 l' u' e hl' hu' hgu
    by_cases e : l = s.data.toList
    · by_cases e' : l' = s.data.toList
      · rw [e, e']
      · subst e
        rw [atKey_put_same hm (keyLit _)] at hu
        cases hu
        rw [atKey_put_other (key_ne e')] at hu'
        simp only [DG.set, if_neg e'] at hl'
        exact (key l' u' e' hl' hu' hg1 hg2').elim
    · by_cases e' : l' = s.data.toList
      · subst e'
        rw [atKey_put_same hm (keyLit _)] at hu'
        cases hu'
        rw [atKey_put_other (key_ne e)] at hu
        simp only [DG.set, if_neg e] at hl
        exact (key l u e hl hu hg2' hg1).elim
      · rw [atKey_put_other (key_ne e)] at hu
        rw [atKey_put_other (key_ne e')] at hu'
        simp only [DG.set, if_neg e] at hl
        simp only [DG.set, if_neg e'] at hl'
        exact h.apart l l' u u' g hl hl' hu hu' hg1 hg2'
  · rintro k (hk | ⟨_, hk⟩)
    · exact Nat.lt_of_lt_of_le (h.lt k hk) hT.size
    · exact hk

end Go.Proofs.YtdjodigimhgklaaGreatDoor

/- The walk of the closure that puts a piece behind a file's end. -/
namespace Go.Proofs.YtdjodigimhgklaaGreatDoor
open Go.RowKit Go.Maps

/-- a file has these bytes more -/
def DG.add (S : DG) (l bs : List UInt8) : DG := S.set l ((S.f l).getD [] ++ bs)

set_option maxRecDepth 20000 in
set_option maxHeartbeats 2000000 in
theorem piece_any (p : Nat) (S : DG) (Fp : Nat → Prop) (w : World) (s : ByteArray) (Bd Bn Bp : Nat) (a : Option Addr) (m c : Nat) (l : List UInt8) (hd : IsDisk w p S Fp)
    (hbd : w.cell? ⟨Bd, 0, none⟩ = some (.pointer (some ⟨p, 0, none⟩))) (hbn : w.cell? ⟨Bn, 0, none⟩ = some (.string s)) (hbp : w.cell? ⟨Bp, 0, none⟩ = some (.slice a m c))
    (nd : ¬ Fp Bd) (nn : ¬ Fp Bn) (np : ¬ Fp Bp) (hb : Bytes w a m l) (hnil : a = none → m = 0 ∧ c = 0) (hs : s.size ≤ maxLen) (hlen : ((S.f s.data.toList).getD []).length + m ≤ 140737488355328) (hn : S.n < maxLen) :
    Calls Tryz.prog 96 #[.pointer (some ⟨Bd, 0, none⟩), .pointer (some ⟨Bn, 0, none⟩), .pointer (some ⟨Bp, 0, none⟩)] w fun e w' =>
      e = .returned (.tuple #[]) ∧ IsDisk w' p (S.add s.data.toList l) (grow Fp w w') ∧ Turn Fp w w' := by
  obtain ⟨b, M, hd⟩ := hd
  obtain ⟨v, hv, hrow, hvo⟩ := hd.value s.data.toList
  have c0 := hd.c0
  have hLk : ∀ W : World, W.heap[b]? = w.heap[b]? → (Instr.lookup 83 (.map (some b)) (.string s) false).run Tryz.prog W = .ok v W := by
    intro W hW
    have hown : W.ownsMap Tryz.prog 9 rv b (size M) M := by
      obtain ⟨es, clock, hb, r⟩ := hd.own
      exact ⟨es, clock, hW.trans hb, r⟩
    obtain ⟨u, ps, hrun, hu⟩ := hown.lookup keyed Tryz.underlying83 (zeroSlice W) (show rv (.slice none 0 0) = some (nils, []) from rfl) (keyOfS s hs)
    rw [hv] at hu
    have := rv_inv hu
    cases this
    exact hrun
  have hL0 := hLk w.drew rfl
  have ld := World.block_lt_of_cell? w _ hbd
  have ln := World.block_lt_of_cell? w _ hbn
  have lp := World.block_lt_of_cell? w _ hbp
  have l0 := World.block_lt_of_cell? w _ c0
  have hvn : ∀ g, v.ownBlock = some g → g ≠ Bd ∧ g ≠ Bn ∧ g ≠ Bp ∧ g ≠ p ∧ g ≠ b := fun g hg => ⟨fun e => nd (e ▸ (hvo g hg).1), fun e => nn (e ▸ (hvo g hg).1), fun e => np (e ▸ (hvo g hg).1), (hvo g hg).2.1, (hvo g hg).2.2.1⟩
  have hput : ∀ v' w1, w1.ownsRow 0 5 1 v' (((S.f s.data.toList).getD []).length + m) (cellsOf ((S.f s.data.toList).getD []) ++ cellsOf l) → w.drew.grownBy w1 v.ownBlock → (v'.ownBlock = v.ownBlock ∨ v'.ownBlock = some w.drew.heap.size) →
      ∃ w2, (Instr.mapUpdate 83 (.map (some b)) (.string s) v').run Tryz.prog w1 = .ok () w2 ∧ w2.cell? ⟨p, 0, none⟩ = some (.map (some b)) ∧ Hid (IsDisk w2 p (S.add s.data.toList l) (grow Fp w w2) ∧ Turn Fp w w2) := by
    intro v' w1 h1 h2 h3
    rw [← cellsOf_append, show ((S.f s.data.toList).getD []).length + m = ((S.f s.data.toList).getD [] ++ l).length by rw [List.length_append, hb.1]] at h1
    obtain ⟨w2, hr, hx, hT⟩ := hd.put s hs v v' _ hv hvo ⟨h2.os, h2.tape, h2.output, h2.size, h2.block⟩ h1 (hd.free_append _ v v' hv hvo h3) hn
    exact ⟨w2, hr, hx.c0, ⟨b, _, hx⟩, hT⟩
  have hbD : Bytes w.drew a m l := ⟨hb.1, hb.2⟩
  go_enter Tryz.func96, Tryz.ntmps96
  go_wp2_with fail
  go_region_held3 (fun W => W.cell? ⟨Bd, 0, none⟩ = some (.pointer (some ⟨p, 0, none⟩)) ∧ W.cell? ⟨Bn, 0, none⟩ = some (.string s) ∧ W.cell? ⟨Bp, 0, none⟩ = some (.slice a m c) ∧ W.cell? ⟨p, 0, none⟩ = some (.map (some b)))
    (first
      | (go_split_ands
         refine ⟨by go_keep, by go_keep, by go_keep, by go_keep⟩)
      | (go_split_ands
         exact ⟨(hgrow.cell hbd (fun e => (hvn _ e.symm).1 rfl)), (hgrow.cell hbn (fun e => (hvn _ e.symm).2.1 rfl)), (hgrow.cell hbp (fun e => (hvn _ e.symm).2.2.1 rfl)), (hgrow.cell c0 (fun e => (hvn _ e.symm).2.2.2.1 rfl))⟩)
      | (go_split_ands
         exact ⟨hfin.out.2.cell hbd nd, hfin.out.2.cell hbn nn, hfin.out.2.cell hbp np, hp2⟩))
    ((refine step_append_row _ (by rfl) _ _ (by rfl) v _ _ (by rfl) hrow.drew a m c l (by rfl) hbD hnil hlen ?_; intro v' w1 hown1 hgrow hat; obtain ⟨w2, hupd, hp2, hfin⟩ := hput v' w1 hown1 hgrow hat))
  go_wp2
  go_end0
  exact ⟨rfl, hfin.out⟩

end Go.Proofs.YtdjodigimhgklaaGreatDoor
