import Derived.Test.YtiafhbpklddlnaaGreatDoorD12
/- The walks of Truncate, Rename and Remove. -/
namespace Go.Proofs.YtiafhbpklddlnaaGreatDoor
open Go.RowKit Go.Maps

/-- a file is gone -/
def DG.rem (S : DG) (l : List UInt8) : DG := { S with f := fun x => if x = l then none else S.f x, n := if (S.f l).isSome then S.n - 1 else S.n }

theorem wp_delete_run (w : World) {o : Oper} {a : Act} {K : Act → World → Prop} {Q : Exit → Act → World → Prop} (s x : Operand)
    (ho : o.op = .call { callee := .builtin .delete, args := #[s, x], argTypes := #[57, 9] })
    (m k : Value) (hs : a.eval s = m) (hx : a.eval x = k) (w' : World) (hr : (Builtin.delete_ #[57, 9] o.type #[m, k]).run Tryz.prog w = .ok (.tuple #[]) w')
    (h : K (a.put o.dst (.tuple #[])) w') : o.wp Tryz.prog a w K Q := by
  unfold Oper.wp execOp
  simp only [ho, resolve, invoke, builtin, Sem.run_bind, Sem.run_pure, Result.andThen_ok, List.map_toArray, List.map_cons, List.map_nil, hs, hx, hr]
  exact h

theorem step_delete_run (w : World) {ops : Array Oper} {o : Oper} {a : Act} {K : Act → World → Prop} {Q : Exit → Act → World → Prop} {E : Prop} (hgd : o.guard = none) (s x : Operand)
    (ho : o.op = .call { callee := .builtin .delete, args := #[s, x], argTypes := #[57, 9] })
    (m k : Value) (hs : a.eval s = m) (hx : a.eval x = k) (w' : World) (hr : (Builtin.delete_ #[57, 9] o.type #[m, k]).run Tryz.prog w = .ok (.tuple #[]) w')
    (h : K (a.put o.dst (.tuple #[])) w') :
    if Region.wanted o (yielded ops a.tmps) = true then Oper.wp Tryz.prog o a w K Q else E := by
  have hw : Region.wanted o (yielded ops a.tmps) = true := by simp [Region.wanted, hgd]
  rw [if_pos hw]
  exact wp_delete_run w s x ho m k hs hx w' hr h

theorem DiskAt.drop {w : World} {p b : Nat} {M : DataW Value} {S : DG} {Fp : Nat → Prop} (h : DiskAt w p b M S Fp) (s : ByteArray) (hs : s.size ≤ maxLen) (ty : TypeId) :
    ∃ w2, (Builtin.delete_ #[57, 9] ty #[.map (some b), .string s]).run Tryz.prog w = .ok (.tuple #[]) w2 ∧ DiskAt w2 p b (M.del (.string s.data.toList)) (S.rem s.data.toList) Fp ∧ Turn Fp w w2 := by
  obtain ⟨w2, hrun, own2, ht⟩ := h.own.drop keyed Tryz.underlying57 (keyOfS s hs) ty
  have hg := ht.grown
  have hblk : ∀ k, k < w.heap.size → k ≠ b → w2.heap[k]? = w.heap[k]? := fun k hk hb => hg.block k hk (by simpa using hb)
  have hp2 := hblk p (h.lt p h.fp) h.pb
  have htidy := h.own.tidy keyed
  refine ⟨w2, hrun, ?_, Turn.of_grownBy hg (fun k hk => by cases hk; exact .inl h.fb)⟩
  refine { c0 := ?_, c1 := ?_, c2 := ?_, c3 := ?_, f1 := ?_, f2 := ?_, f3 := ?_, hl := h.hl, pb := h.pb, own := ownsMap_tight own2, sz := ?_, has := ?_, row := ?_, apart := ?_, fp := h.fp, fb := h.fb, lt := fun k hk => Nat.lt_of_lt_of_le (h.lt k hk) hg.size }
  · rw [World.cell?_of_block hp2]; exact h.c0
  · rw [World.cell?_of_block hp2]; exact h.c1
  · rw [World.cell?_of_block hp2]; exact h.c2
  · rw [World.cell?_of_block hp2]; exact h.c3
  · rw [World.frozen?_of_block hp2]; exact h.f1
  · rw [World.frozen?_of_block hp2]; exact h.f2
  · rw [World.frozen?_of_block hp2]; exact h.f3
  · have := size_del (k := .string s.data.toList) htidy
    rw [h.has, h.sz] at this
    simp only [DG.rem]
    split at this
    · rename_i h1; rw [if_pos h1]; omega
    · rename_i h1; rw [if_neg h1]; omega
  · intro l
    by_cases e : l = s.data.toList
    · subst e
      rw [has_del_same]
      simp [DG.rem]
    · rw [has_del_other (key_ne e), h.has]
      simp [DG.rem, e]
  · intro l bs' hf
    by_cases e : l = s.data.toList
    · simp [DG.rem, e] at hf
    · simp only [DG.rem, if_neg e] at hf
      obtain ⟨u, h1, h2, h3⟩ := h.row l bs' hf
      exact ⟨u, by rw [atKey_del_other (key_ne e)]; exact h1, ownsRow_move h2 (fun g hg' => hblk g (h.lt g (h3 g hg').1) (h3 g hg').2.2), h3⟩
  · intro l l' u u' g hl hl' hu hu' hg1 hg2'
    by_cases e : l = s.data.toList
    · simp [DG.rem, e] at hl
    · by_cases e' : l' = s.data.toList
      · simp [DG.rem, e'] at hl'
      · rw [atKey_del_other (key_ne e)] at hu
        rw [atKey_del_other (key_ne e')] at hu'
        simp only [DG.rem, if_neg e] at hl
        simp only [DG.rem, if_neg e'] at hl'
        exact h.apart l l' u u' g hl hl' hu hu' hg1 hg2'

theorem raw_any (k p : Nat) (caps : Array Value) (S S2 : DG) (Fp : Nat → Prop) (w : World) (hk : ∀ w, (callFunc k caps).run Tryz.prog w = .ok (.enter k caps) w) (hd : IsDisk w p S Fp) (hw : S.wr < 4611686018427387904)
    (hcl : ∀ w1, (∀ b M, DiskAt w p b M S Fp → DiskAt w1 p b M S.done Fp) → IsDisk w1 p S.done Fp → Turn (fun i => i = p) w w1 → w1.heap.size = w.heap.size → Calls Tryz.prog k caps w1 fun e w' => e = .returned (.tuple #[]) ∧ IsDisk w' p S2 (grow Fp w1 w') ∧ Turn Fp w1 w') :
    Calls Tryz.prog 69 #[.pointer (some ⟨p, 0, none⟩), .func (.func k) #[] caps] w fun e w' => e = .returned (.int .i64 (if S.can = true then 0 else 6)) ∧ IsDisk w' p (if S.can = true then S2 else S) (grow Fp w w') ∧ Turn Fp w w' := by
  have hlt := hd.lt
  have hp := hd.fp
  by_cases hc : S.can = true
  · simp only [hc, if_true]
    refine (raw_done k p _ S Fp _ (fun w' => IsDisk w' p S2 (grow Fp w w') ∧ Turn Fp w w') hk hd hw hc ?_).mono fun e w' ⟨he, hR⟩ => ⟨he, hR⟩
    intro w1 hkp hd1 hT1 hs1
    refine (hcl w1 hkp hd1 hT1 hs1).mono fun e w' ⟨he, hd', hT'⟩ => ⟨he, ?_⟩
    have hT2 : Turn Fp w w' := (hT1.wide (fun i h => by subst h; exact hp)).trans hT' (fun _ _ h => h)
    exact ⟨grow_lt hd' hlt (fun k hk => hk.elim .inl (fun h => .inr (by omega))) hT2.size, hT2⟩
  · simp only [hc, if_false, Bool.false_eq_true]
    refine (raw_cut k p _ S Fp _ hd (by simpa using hc)).mono fun e w' ⟨he, hw'⟩ => ⟨he, ?_⟩
    subst hw'
    exact ⟨grow_lt hd hlt (fun k hk => .inl hk) (Nat.le_refl _), Turn.refl _ _⟩

set_option maxRecDepth 20000 in
set_option maxHeartbeats 2000000 in
theorem truncate1_any (p : Nat) (S : DG) (Fp : Nat → Prop) (w : World) (s : ByteArray) (Bf Bm Bd Bn : Nat) (a : Option Addr) (m c n : Nat) (l : List UInt8) (hd : IsDisk w p S Fp)
    (hbf : w.cell? ⟨Bf, 0, none⟩ = some (.slice a m c)) (hbm : w.cell? ⟨Bm, 0, none⟩ = some (.int .i64 n)) (hbd : w.cell? ⟨Bd, 0, none⟩ = some (.pointer (some ⟨p, 0, none⟩))) (hbn : w.cell? ⟨Bn, 0, none⟩ = some (.string s))
    (nf : ¬ Fp Bf) (nm : ¬ Fp Bm) (nd : ¬ Fp Bd) (nn : ¬ Fp Bn) (hb : Bytes w a m l) (hmc : m ≤ c) (hnil : a = none → m = 0 ∧ c = 0) (hnm : n ≤ m) (hbig : m ≤ 140737488355328) (hs : s.size ≤ maxLen) (hn : S.n < maxLen) :
    Calls Tryz.prog 75 #[.pointer (some ⟨Bf, 0, none⟩), .pointer (some ⟨Bm, 0, none⟩), .pointer (some ⟨Bd, 0, none⟩), .pointer (some ⟨Bn, 0, none⟩)] w fun e w' =>
      e = .returned (.tuple #[]) ∧ IsDisk w' p (S.set s.data.toList (l.take n)) (grow Fp w w') ∧ Turn Fp w w' := by
  have hlt := hd.lt
  obtain ⟨b, M, hd⟩ := hd
  obtain ⟨vo, hvo, _, hvb⟩ := hd.value s.data.toList
  have c0 := hd.c0
  have hll := hb.1
  have hln : (l.take n).length = n := by simp; omega
  have hbt := hb.take n hnm
  have hclone := clone_any a n c (l.take n) w.drew ⟨hbt.1, hbt.2⟩ (fun h => ⟨by have := (hnil h).1; omega, (hnil h).2⟩) (by omega)
  have hput : ∀ a' c' w3, w3.ownsRow w.drew.heap.size 5 1 (.slice a' n c') n (cellsOf (l.take n)) → Below w.drew.heap.size w.drew w3 →
      Hid (w3.cell? ⟨Bf, 0, none⟩ = some (.slice a m c) ∧ w3.cell? ⟨Bm, 0, none⟩ = some (.int .i64 n) ∧ w3.cell? ⟨Bd, 0, none⟩ = some (.pointer (some ⟨p, 0, none⟩)) ∧ w3.cell? ⟨Bn, 0, none⟩ = some (.string s) ∧ w3.cell? ⟨p, 0, none⟩ = some (.map (some b))) ∧
      ∃ w4, (Instr.mapUpdate 57 (.map (some b)) (.string s) (.slice a' n c')).run Tryz.prog w3 = .ok () w4 ∧
        Hid (w4.cell? ⟨Bf, 0, none⟩ = some (.slice a m c) ∧ w4.cell? ⟨Bm, 0, none⟩ = some (.int .i64 n) ∧ w4.cell? ⟨Bd, 0, none⟩ = some (.pointer (some ⟨p, 0, none⟩)) ∧ w4.cell? ⟨Bn, 0, none⟩ = some (.string s) ∧ w4.cell? ⟨p, 0, none⟩ = some (.map (some b))) ∧
        Hid (IsDisk w4 p (S.set s.data.toList (l.take n)) (grow Fp w w4) ∧ Turn Fp w w4) := by
    intro a' c' w3 ho hB3
    have hB3' : Below w.heap.size w w3 := ⟨hB3.os, hB3.tape, hB3.output, hB3.size, hB3.block⟩
    refine ⟨⟨?_, ?_, ?_, ?_, ?_⟩, ?_⟩
    · rw [hB3'.cell (World.block_lt_of_cell? w _ hbf)]; exact hbf
    · rw [hB3'.cell (World.block_lt_of_cell? w _ hbm)]; exact hbm
    · rw [hB3'.cell (World.block_lt_of_cell? w _ hbd)]; exact hbd
    · rw [hB3'.cell (World.block_lt_of_cell? w _ hbn)]; exact hbn
    · rw [hB3'.cell (World.block_lt_of_cell? w _ c0)]; exact c0
    · have ho' : w3.ownsRow 0 5 1 (.slice a' n c') (l.take n).length (cellsOf (l.take n)) := by rw [hln]; exact ownsRow_zero ho
      obtain ⟨w4, hr4, hd4, hT4⟩ := hd.put (w1 := w3) s hs vo (.slice a' n c') (l.take n) hvo hvb ⟨hB3.os, hB3.tape, hB3.output, hB3.size, fun k hk _ => hB3.block k hk⟩ ho' (hd.free_new _ _ (fun g hg => (ho.lt g hg).1)) hn
      exact ⟨w4, hr4, ⟨hT4.cell hbf nf, hT4.cell hbm nm, hT4.cell hbd nd, hT4.cell hbn nn, hd4.c0⟩, ⟨b, _, hd4⟩, hT4⟩
  have i0 : (0 : Int) ≤ (n : Int) := by omega
  have i1 : (n : Int) ≤ (c : Int) := by omega
  clear hd hvo hvb hb hbt
  go_enter Tryz.func75, Tryz.ntmps75
  go_wp2_with fail
  go_region_held3 (fun W => W.cell? ⟨Bf, 0, none⟩ = some (.slice a m c) ∧ W.cell? ⟨Bm, 0, none⟩ = some (.int .i64 n) ∧ W.cell? ⟨Bd, 0, none⟩ = some (.pointer (some ⟨p, 0, none⟩)) ∧ W.cell? ⟨Bn, 0, none⟩ = some (.string s) ∧ W.cell? ⟨p, 0, none⟩ = some (.map (some b)))
    (first
      | (go_split_ands
         refine ⟨by go_keep, by go_keep, by go_keep, by go_keep, by go_keep⟩)
      | (exact hc3.out)
      | (exact hc4.out))
    ((go_at_call 38; refine hclone.mono ?_; rintro e w3 ⟨a', c', rfl, ho3, hB3, hnc3, hnn3⟩; obtain ⟨hc3, w4, hupd, hc4, hfin⟩ := hput a' c' w3 ho3 hB3))
  go_wp2
  go_end0
  exact ⟨rfl, hfin.out⟩

end Go.Proofs.YtiafhbpklddlnaaGreatDoor
