import Derived.Test.YtcbmofapnjdmgaaDoorDD11
/- The walks of Truncate, Rename and Remove. -/
namespace Go.Proofs.YtcbmofapnjdmgaaDoor
open Go.RowKit Go.Maps

/-- a file is gone -/
def DG.rem (S : DG) (l : List UInt8) : DG := { S with f := fun x => if x = l then none else S.f x, n := if (S.f l).isSome then S.n - 1 else S.n }

theorem wp_delete_run (w : World) {o : Oper} {a : Act} {K : Act → World → Prop} {Q : Exit → Act → World → Prop} (s x : Operand)
    (ho : o.op = .call { callee := .builtin .delete, args := #[s, x], argTypes := #[43, 9] })
    (m k : Value) (hs : a.eval s = m) (hx : a.eval x = k) (w' : World) (hr : (Builtin.delete_ #[43, 9] o.type #[m, k]).run Tryd.prog w = .ok (.tuple #[]) w')
    (h : K (a.put o.dst (.tuple #[])) w') : o.wp Tryd.prog a w K Q := by
  unfold Oper.wp execOp
  simp only [ho, resolve, invoke, builtin, Sem.run_bind, Sem.run_pure, Result.andThen_ok, List.map_toArray, List.map_cons, List.map_nil, hs, hx, hr]
  exact h

theorem step_delete_run (w : World) {ops : Array Oper} {o : Oper} {a : Act} {K : Act → World → Prop} {Q : Exit → Act → World → Prop} {E : Prop} (hgd : o.guard = none) (s x : Operand)
    (ho : o.op = .call { callee := .builtin .delete, args := #[s, x], argTypes := #[43, 9] })
    (m k : Value) (hs : a.eval s = m) (hx : a.eval x = k) (w' : World) (hr : (Builtin.delete_ #[43, 9] o.type #[m, k]).run Tryd.prog w = .ok (.tuple #[]) w')
    (h : K (a.put o.dst (.tuple #[])) w') :
    if Region.wanted o (yielded ops a.tmps) = true then Oper.wp Tryd.prog o a w K Q else E := by
  have hw : Region.wanted o (yielded ops a.tmps) = true := by simp [Region.wanted, hgd]
  rw [if_pos hw]
  exact wp_delete_run w s x ho m k hs hx w' hr h

theorem DiskAt.drop {w : World} {p b : Nat} {M : DataW Value} {S : DG} {Fp : Nat → Prop} (h : DiskAt w p b M S Fp) (s : ByteArray) (hs : s.size ≤ maxLen) (ty : TypeId) :
    ∃ w2, (Builtin.delete_ #[43, 9] ty #[.map (some b), .string s]).run Tryd.prog w = .ok (.tuple #[]) w2 ∧ DiskAt w2 p b (M.del (.string s.data.toList)) (S.rem s.data.toList) Fp ∧ Turn Fp w w2 := by
  obtain ⟨w2, hrun, own2, ht⟩ := h.own.drop keyed Tryd.underlying43 (keyOfS s hs) ty
  have hg := ht.grown
  have hblk : ∀ k, k < w.heap.size → k ≠ b → w2.heap[k]? = w.heap[k]? := fun k hk hb => hg.block k hk (by simpa using hb)
  have hp2 := hblk p (h.lt p h.fp) h.pb
  have htidy := h.own.tidy keyed
  refine ⟨w2, hrun, ?_, Turn.of_grownBy hg (fun k hk => by cases hk; exact .inl h.fb)⟩
  refine { c0 := ?_, c1 := ?_, c2 := ?_, c3 := ?_, f1 := ?_, f2 := ?_, f3 := ?_, hl := h.hl, pb := h.pb, own := ownsMap_tight own2, sz := ?_, has := ?_, row := ?_, apart := ?_, fp := h.fp, fb := h.fb, lt := fun k hk => Nat.lt_of_lt_of_le (h.lt k hk) hg.size }
  · rw [World.cell?_of_block hp2]; exact h.c0
  · rw [World.cell?_of_block hp2]; exact h.c1
  · rw [World.cell?_of_block hp2]; exact h.c2
  · rw [World.cell?_of_block hp2]; exact h.c3
  · rw [World.frozen?_of_block hp2]; exact h.f1
  · rw [World.frozen?_of_block hp2]; exact h.f2
  · rw [World.frozen?_of_block hp2]; exact h.f3
  · have := size_del (k := .string s.data.toList) htidy
    rw [h.has, h.sz] at this
    simp only [DG.rem]
    split at this
    · rename_i h1; rw [if_pos h1]; omega
    · rename_i h1; rw [if_neg h1]; omega
  · intro l
    by_cases e : l = s.data.toList
    · subst e
      rw [has_del_same]
      simp [DG.rem]
    · rw [has_del_other (key_ne e), h.has]
      simp [DG.rem, e]
  · intro l bs' hf
    by_cases e : l = s.data.toList
    · simp [DG.rem, e] at hf
    · simp only [DG.rem, if_neg e] at hf
      obtain ⟨u, h1, h2, h3⟩ := h.row l bs' hf
      exact ⟨u, by rw [atKey_del_other (key_ne e)]; exact h1, ownsRow_move h2 (fun g hg' => hblk g (h.lt g (h3 g hg').1) (h3 g hg').2.2), h3⟩
  · intro l l' u u' g hl hl' hu hu' hg1 hg2'
    by_cases e : l = s.data.toList
    · simp [DG.rem, e] at hl
    · by_cases e' : l' = s.data.toList
      · simp [DG.rem, e'] at hl'
      · rw [atKey_del_other (key_ne e)] at hu
        rw [atKey_del_other (key_ne e')] at hu'
        simp only [DG.rem, if_neg e] at hl
        simp only [DG.rem, if_neg e'] at hl'
        exact h.apart l l' u u' g hl hl' hu hu' hg1 hg2'

theorem raw_any (k p : Nat) (caps : Array Value) (S S2 : DG) (Fp : Nat → Prop) (w : World) (hk : ∀ w, (callFunc k caps).run Tryd.prog w = .ok (.enter k caps) w) (hd : IsDisk w p S Fp) (hw : S.wr < 4611686018427387904)
    (hcl : ∀ w1, (∀ b M, DiskAt w p b M S Fp → DiskAt w1 p b M S.done Fp) → IsDisk w1 p S.done Fp → Turn (fun i => i = p) w w1 → w1.heap.size = w.heap.size → Calls Tryd.prog k caps w1 fun e w' => e = .returned (.tuple #[]) ∧ IsDisk w' p S2 (grow Fp w1 w') ∧ Turn Fp w1 w') :
    Calls Tryd.prog 42 #[.pointer (some ⟨p, 0, none⟩), .func (.func k) #[] caps] w fun e w' => e = .returned (.int .i64 (if S.can = true then 0 else 6)) ∧ IsDisk w' p (if S.can = true then S2 else S) (grow Fp w w') ∧ Turn Fp w w' := by
  have hlt := hd.lt
  have hp := hd.fp
  by_cases hc : S.can = true
  · simp only [hc, if_true]
    refine (raw_done k p _ S Fp _ (fun w' => IsDisk w' p S2 (grow Fp w w') ∧ Turn Fp w w') hk hd hw hc ?_).mono fun e w' ⟨he, hR⟩ => ⟨he, hR⟩
    intro w1 hkp hd1 hT1 hs1
    refine (hcl w1 hkp hd1 hT1 hs1).mono fun e w' ⟨he, hd', hT'⟩ => ⟨he, ?_⟩
    have hT2 : Turn Fp w w' := (hT1.wide (fun i h => by subst h; exact hp)).trans hT' (fun _ _ h => h)
    exact ⟨grow_lt hd' hlt (fun k hk => hk.elim .inl (fun h => .inr (by omega))) hT2.size, hT2⟩
  · simp only [hc, if_false, Bool.false_eq_true]
    refine (raw_cut k p _ S Fp _ hd (by simpa using hc)).mono fun e w' ⟨he, hw'⟩ => ⟨he, ?_⟩
    subst hw'
    exact ⟨grow_lt hd hlt (fun k hk => .inl hk) (Nat.le_refl _), Turn.refl _ _⟩

set_option maxRecDepth 20000 in
set_option maxHeartbeats 2000000 in
theorem remove1_any (p : Nat) (S : DG) (Fp : Nat → Prop) (w : World) (s : ByteArray) (Bd Bn : Nat) (hd : IsDisk w p S Fp)
    (hbd : w.cell? ⟨Bd, 0, none⟩ = some (.pointer (some ⟨p, 0, none⟩))) (hbn : w.cell? ⟨Bn, 0, none⟩ = some (.string s)) (nd : ¬ Fp Bd) (nn : ¬ Fp Bn) (hs : s.size ≤ maxLen) :
    Calls Tryd.prog 46 #[.pointer (some ⟨Bd, 0, none⟩), .pointer (some ⟨Bn, 0, none⟩)] w fun e w' =>
      e = .returned (.tuple #[]) ∧ IsDisk w' p (S.rem s.data.toList) (grow Fp w w') ∧ Turn Fp w w' := by
  have hlt := hd.lt
  obtain ⟨b, M, hd⟩ := hd
  have c0 := hd.c0
  have hdD : DiskAt w.drew p b M S Fp := hd.kept (Nat.le_refl _) (fun _ _ => rfl)
  obtain ⟨w2, hrun, hd2, hT2⟩ := hdD.drop s hs 0
  have hT2' : Turn Fp w w2 := ⟨hT2.os, hT2.tape, hT2.output, hT2.size, hT2.block⟩
  have hc2 := hd2.c0
  have k1 := hT2'.cell hbd nd
  have k2 := hT2'.cell hbn nn
  have hR : Hid (IsDisk w2 p (S.rem s.data.toList) (grow Fp w w2) ∧ Turn Fp w w2) := ⟨grow_lt ⟨b, _, hd2⟩ hlt (fun k hk => .inl hk) hT2'.size, hT2'⟩
  clear hd2 hT2 hdD hd hT2'
  go_enter Tryd.func46, Tryd.ntmps46
  go_wp2_with fail
  go_region_held3 (fun W => W.cell? ⟨Bd, 0, none⟩ = some (.pointer (some ⟨p, 0, none⟩)) ∧ W.cell? ⟨Bn, 0, none⟩ = some (.string s) ∧ W.cell? ⟨p, 0, none⟩ = some (.map (some b)))
    (first
      | (go_split_ands
         refine ⟨by go_keep, by go_keep, by go_keep⟩)
      | (exact ⟨k1, k2, hc2⟩))
    ((refine step_delete_run _ (by rfl) _ _ (by rfl) (.map (some b)) (.string s) (by rfl) (by rfl) w2 hrun ?_))
  go_wp2
  go_end0
  exact ⟨rfl, hR.out⟩

set_option maxRecDepth 20000 in
set_option maxHeartbeats 2000000 in
theorem truncate1_any (p : Nat) (S : DG) (Fp : Nat → Prop) (w : World) (s : ByteArray) (Bf Bm Bd Bn : Nat) (a : Option Addr) (m c n : Nat) (l : List UInt8) (hd : IsDisk w p S Fp)
    (hbf : w.cell? ⟨Bf, 0, none⟩ = some (.slice a m c)) (hbm : w.cell? ⟨Bm, 0, none⟩ = some (.int .i64 n)) (hbd : w.cell? ⟨Bd, 0, none⟩ = some (.pointer (some ⟨p, 0, none⟩))) (hbn : w.cell? ⟨Bn, 0, none⟩ = some (.string s))
    (nf : ¬ Fp Bf) (nm : ¬ Fp Bm) (nd : ¬ Fp Bd) (nn : ¬ Fp Bn) (hb : Bytes w a m l) (hmc : m ≤ c) (hnil : a = none → m = 0 ∧ c = 0) (hnm : n ≤ m) (hbig : m ≤ 140737488355328) (hs : s.size ≤ maxLen) (hn : S.n < maxLen) :
    Calls Tryd.prog 43 #[.pointer (some ⟨Bf, 0, none⟩), .pointer (some ⟨Bm, 0, none⟩), .pointer (some ⟨Bd, 0, none⟩), .pointer (some ⟨Bn, 0, none⟩)] w fun e w' =>
      e = .returned (.tuple #[]) ∧ IsDisk w' p (S.set s.data.toList (l.take n)) (grow Fp w w') ∧ Turn Fp w w' := by
  have hlt := hd.lt
  obtain ⟨b, M, hd⟩ := hd
  obtain ⟨vo, hvo, _, hvb⟩ := hd.value s.data.toList
  have c0 := hd.c0
  have hll := hb.1
  have hln : (l.take n).length = n := by simp; omega
  have hbt := hb.take n hnm
  have hclone := clone_any a n c (l.take n) w.drew ⟨hbt.1, hbt.2⟩ (fun h => ⟨by have := (hnil h).1; omega, (hnil h).2⟩) (by omega)
  have hput : ∀ a' c' w3, w3.ownsRow w.drew.heap.size 5 1 (.slice a' n c') n (cellsOf (l.take n)) → Below w.drew.heap.size w.drew w3 →
      Hid (w3.cell? ⟨Bf, 0, none⟩ = some (.slice a m c) ∧ w3.cell? ⟨Bm, 0, none⟩ = some (.int .i64 n) ∧ w3.cell? ⟨Bd, 0, none⟩ = some (.pointer (some ⟨p, 0, none⟩)) ∧ w3.cell? ⟨Bn, 0, none⟩ = some (.string s) ∧ w3.cell? ⟨p, 0, none⟩ = some (.map (some b))) ∧
      ∃ w4, (Instr.mapUpdate 43 (.map (some b)) (.string s) (.slice a' n c')).run Tryd.prog w3 = .ok () w4 ∧
        Hid (w4.cell? ⟨Bf, 0, none⟩ = some (.slice a m c) ∧ w4.cell? ⟨Bm, 0, none⟩ = some (.int .i64 n) ∧ w4.cell? ⟨Bd, 0, none⟩ = some (.pointer (some ⟨p, 0, none⟩)) ∧ w4.cell? ⟨Bn, 0, none⟩ = some (.string s) ∧ w4.cell? ⟨p, 0, none⟩ = some (.map (some b))) ∧
        Hid (IsDisk w4 p (S.set s.data.toList (l.take n)) (grow Fp w w4) ∧ Turn Fp w w4) := by
    intro a' c' w3 ho hB3
    have hB3' : Below w.heap.size w w3 := ⟨hB3.os, hB3.tape, hB3.output, hB3.size, hB3.block⟩
    refine ⟨⟨?_, ?_, ?_, ?_, ?_⟩, ?_⟩
    · rw [hB3'.cell (World.block_lt_of_cell? w _ hbf)]; exact hbf
    · rw [hB3'.cell (World.block_lt_of_cell? w _ hbm)]; exact hbm
    · rw [hB3'.cell (World.block_lt_of_cell? w _ hbd)]; exact hbd
    · rw [hB3'.cell (World.block_lt_of_cell? w _ hbn)]; exact hbn
    · rw [hB3'.cell (World.block_lt_of_cell? w _ c0)]; exact c0
    · have ho' : w3.ownsRow 0 5 1 (.slice a' n c') (l.take n).length (cellsOf (l.take n)) := by rw [hln]; exact ownsRow_zero ho
      obtain ⟨w4, hr4, hd4, hT4⟩ := hd.put (w1 := w3) s hs vo (.slice a' n c') (l.take n) hvo hvb ⟨hB3.os, hB3.tape, hB3.output, hB3.size, fun k hk _ => hB3.block k hk⟩ ho' (hd.free_new _ _ (fun g hg => (ho.lt g hg).1)) hn
      exact ⟨w4, hr4, ⟨hT4.cell hbf nf, hT4.cell hbm nm, hT4.cell hbd nd, hT4.cell hbn nn, hd4.c0⟩, ⟨b, _, hd4⟩, hT4⟩
  have i0 : (0 : Int) ≤ (n : Int) := by omega
  have i1 : (n : Int) ≤ (c : Int) := by omega
  clear hd hvo hvb hb hbt
  go_enter Tryd.func43, Tryd.ntmps43
  go_wp2_with fail
  go_region_held3 (fun W => W.cell? ⟨Bf, 0, none⟩ = some (.slice a m c) ∧ W.cell? ⟨Bm, 0, none⟩ = some (.int .i64 n) ∧ W.cell? ⟨Bd, 0, none⟩ = some (.pointer (some ⟨p, 0, none⟩)) ∧ W.cell? ⟨Bn, 0, none⟩ = some (.string s) ∧ W.cell? ⟨p, 0, none⟩ = some (.map (some b)))
    (first
      | (go_split_ands
         refine ⟨by go_keep, by go_keep, by go_keep, by go_keep, by go_keep⟩)
      | (exact hc3.out)
      | (exact hc4.out))
    ((go_at_call 15; refine hclone.mono ?_; rintro e w3 ⟨a', c', rfl, ho3, hB3, hnc3, hnn3⟩; obtain ⟨hc3, w4, hupd, hc4, hfin⟩ := hput a' c' w3 ho3 hB3))
  go_wp2
  go_end0
  exact ⟨rfl, hfin.out⟩

set_option maxRecDepth 20000 in
set_option maxHeartbeats 2000000 in
theorem rename1_any (p : Nat) (S : DG) (Fp : Nat → Prop) (w : World) (s t : ByteArray) (Bd Bn Bf Bt : Nat) (a : Option Addr) (c : Nat) (bs : List UInt8) (b : Nat) (M : DataW Value) (hd : DiskAt w p b M S Fp)
    (hbd : w.cell? ⟨Bd, 0, none⟩ = some (.pointer (some ⟨p, 0, none⟩))) (hbn : w.cell? ⟨Bn, 0, none⟩ = some (.string s)) (hbf : w.cell? ⟨Bf, 0, none⟩ = some (.slice a bs.length c)) (hbt : w.cell? ⟨Bt, 0, none⟩ = some (.string t))
    (nd : ¬ Fp Bd) (nn : ¬ Fp Bn) (nf : ¬ Fp Bf) (nt : ¬ Fp Bt) (hf : S.f s.data.toList = some bs) (hv : M.atKey (.string s.data.toList) nils = .held (.slice a bs.length c)) (hs : s.size ≤ maxLen) (ht : t.size ≤ maxLen) (hn : S.n < maxLen) :
    Calls Tryd.prog 44 #[.pointer (some ⟨Bd, 0, none⟩), .pointer (some ⟨Bn, 0, none⟩), .pointer (some ⟨Bf, 0, none⟩), .pointer (some ⟨Bt, 0, none⟩)] w fun e w' =>
      e = .returned (.tuple #[]) ∧ IsDisk w' p ((S.rem s.data.toList).set t.data.toList bs) (grow Fp w w') ∧ Turn Fp w w' := by
  have hlt := hd.lt
  have c0 := hd.c0
  have hdD : DiskAt w.drew p b M S Fp := hd.kept (Nat.le_refl _) (fun _ _ => rfl)
  obtain ⟨w2, hrun, hd2, hT2⟩ := hdD.drop s hs 0
  have hT2' : Turn Fp w w2 := ⟨hT2.os, hT2.tape, hT2.output, hT2.size, hT2.block⟩
  obtain ⟨v0, hv0, hr0, hg0⟩ := hd.row _ _ hf
  obtain rfl : v0 = .slice a bs.length c := by rw [hv] at hv0; cases hv0; rfl
  have hd2D : DiskAt w2.drew p b _ (S.rem s.data.toList) Fp := hd2.kept (Nat.le_refl _) (fun _ _ => rfl)
  obtain ⟨vo, hvo, _, hvb⟩ := hd2D.value t.data.toList
  have hrow2 : w2.drew.ownsRow 0 5 1 (.slice a bs.length c) bs.length (cellsOf bs) := by
    refine ownsRow_move (w := w) hr0 (fun g hg => ?_)
    obtain ⟨w2', hrun', _, ht'⟩ := hdD.own.drop keyed Tryd.underlying43 (keyOfS s hs) 0
    have : w2 = w2' := by rw [hrun] at hrun'; cases hrun'; rfl
    subst this
    exact ht'.grown.block g (hlt g (hg0 g hg).1) (by simpa using (hg0 g hg).2.2)
  obtain ⟨w3, hrun3, hd3, hT3⟩ := hd2D.put (w1 := w2.drew) t ht vo (.slice a bs.length c) bs hvo hvb ⟨rfl, rfl, rfl, Nat.le_refl _, fun _ _ _ => rfl⟩ hrow2 (by
    intro g hg
    refine ⟨.inl (hg0 g hg).1, (hg0 g hg).2.1, (hg0 g hg).2.2, ?_⟩
    intro l u _ hl hu hgu
    by_cases e : l = s.data.toList
    · simp [DG.rem, e] at hl
    · rw [atKey_del_other (key_ne e)] at hu
      simp only [DG.rem, if_neg e] at hl
      exact e (hd.apart l s.data.toList u _ g hl (by rw [hf]; rfl) hu hv hgu hg)) (by show (if (S.f s.data.toList).isSome = true then S.n - 1 else S.n) < maxLen; split <;> omega)
  have hT3' : Turn Fp w w3 := hT2'.trans (Gp := Fp) ⟨hT3.os, hT3.tape, hT3.output, hT3.size, hT3.block⟩ (fun _ _ h => h)
  have hc2 : Hid (w2.cell? ⟨Bd, 0, none⟩ = some (.pointer (some ⟨p, 0, none⟩)) ∧ w2.cell? ⟨Bn, 0, none⟩ = some (.string s) ∧ w2.cell? ⟨p, 0, none⟩ = some (.map (some b))) := ⟨hT2'.cell hbd nd, hT2'.cell hbn nn, hd2.c0⟩
  have hc2t := hT2'.cell hbt nt
  have hc2f := hT2'.cell hbf nf
  have hc3 : Hid (w3.cell? ⟨Bd, 0, none⟩ = some (.pointer (some ⟨p, 0, none⟩)) ∧ w3.cell? ⟨Bt, 0, none⟩ = some (.string t) ∧ w3.cell? ⟨Bf, 0, none⟩ = some (.slice a bs.length c) ∧ w3.cell? ⟨p, 0, none⟩ = some (.map (some b))) := ⟨hT3'.cell hbd nd, hT3'.cell hbt nt, hT3'.cell hbf nf, hd3.c0⟩
  have hR : Hid (IsDisk w3 p ((S.rem s.data.toList).set t.data.toList bs) (grow Fp w w3) ∧ Turn Fp w w3) :=
    ⟨grow_lt ⟨b, _, hd3⟩ hlt (fun k hk => hk.elim .inl (fun h => .inr (by have h1 : w2.drew.heap.size ≤ k := h.1; have h2 : w2.drew.heap.size = w2.heap.size := rfl; have := hT2'.size; omega))) hT3'.size, hT3'⟩
  clear hd2 hT2 hdD hd hT2' hT3' hT3 hd3 hd2D hvo hvb hrow2 hr0 hg0 hv hv0
  go_enter Tryd.func44, Tryd.ntmps44
  go_wp2_with fail
  go_region_held3 (fun W => W.cell? ⟨Bd, 0, none⟩ = some (.pointer (some ⟨p, 0, none⟩)) ∧ W.cell? ⟨Bn, 0, none⟩ = some (.string s) ∧ W.cell? ⟨p, 0, none⟩ = some (.map (some b)))
    (first
      | (go_split_ands
         refine ⟨by go_keep, by go_keep, by go_keep⟩)
      | (exact hc2.out))
    ((refine step_delete_run _ (by rfl) _ _ (by rfl) (.map (some b)) (.string s) (by rfl) (by rfl) w2 hrun ?_))
  have k2 := hc2.out.1
  have k3 := hc2.out.2.2
  go_wp2_with fail
  go_region_held3 (fun W => W.cell? ⟨Bd, 0, none⟩ = some (.pointer (some ⟨p, 0, none⟩)) ∧ W.cell? ⟨Bt, 0, none⟩ = some (.string t) ∧ W.cell? ⟨Bf, 0, none⟩ = some (.slice a bs.length c) ∧ W.cell? ⟨p, 0, none⟩ = some (.map (some b)))
    (first
      | (go_split_ands
         refine ⟨by go_keep, by go_keep, by go_keep, by go_keep⟩)
      | (exact hc3.out))
    (fail)
  go_wp2
  go_end0
  exact ⟨rfl, hR.out⟩

end Go.Proofs.YtcbmofapnjdmgaaDoor
