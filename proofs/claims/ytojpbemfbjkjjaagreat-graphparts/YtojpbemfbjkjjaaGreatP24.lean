import Derived.Test.YtojpbemfbjkjjaaGreatP21
/- The walks of Truncate, Rename and Remove. -/
namespace Go.Proofs.YtojpbemfbjkjjaaGreat
open Go.RowKit Go.Maps

/-- a file is gone -/
def DG.rem (S : DG) (l : List UInt8) : DG := { S with f := fun x => if x = l then none else S.f x, n := if (S.f l).isSome then S.n - 1 else S.n }

theorem wp_delete_run (w : World) {o : Oper} {a : Act} {K : Act → World → Prop} {Q : Exit → Act → World → Prop} (s x : Operand)
    (ho : o.op = .call { callee := .builtin .delete, args := #[s, x], argTypes := #[102, 9] })
    (m k : Value) (hs : a.eval s = m) (hx : a.eval x = k) (w' : World) (hr : (Builtin.delete_ #[102, 9] o.type #[m, k]).run Tryz.prog w = .ok (.tuple #[]) w')
    (h : K (a.put o.dst (.tuple #[])) w') : o.wp Tryz.prog a w K Q := by
  unfold Oper.wp execOp
  simp only [ho, resolve, invoke, builtin, Sem.run_bind, Sem.run_pure, Result.andThen_ok, List.map_toArray, List.map_cons, List.map_nil, hs, hx, hr]
  exact h

theorem step_delete_run (w : World) {ops : Array Oper} {o : Oper} {a : Act} {K : Act → World → Prop} {Q : Exit → Act → World → Prop} {E : Prop} (hgd : o.guard = none) (s x : Operand)
    (ho : o.op = .call { callee := .builtin .delete, args := #[s, x], argTypes := #[102, 9] })
    (m k : Value) (hs : a.eval s = m) (hx : a.eval x = k) (w' : World) (hr : (Builtin.delete_ #[102, 9] o.type #[m, k]).run Tryz.prog w = .ok (.tuple #[]) w')
    (h : K (a.put o.dst (.tuple #[])) w') :
    if Region.wanted o (yielded ops a.tmps) = true then Oper.wp Tryz.prog o a w K Q else E := by
  have hw : Region.wanted o (yielded ops a.tmps) = true := by simp [Region.wanted, hgd]
  rw [if_pos hw]
  exact wp_delete_run w s x ho m k hs hx w' hr h

theorem DiskAt.drop {w : World} {p b : Nat} {M : DataW Value} {S : DG} {Fp : Nat → Prop} (h : DiskAt w p b M S Fp) (s : ByteArray) (hs : s.size ≤ maxLen) (ty : TypeId) :
    ∃ w2, (Builtin.delete_ #[102, 9] ty #[.map (some b), .string s]).run Tryz.prog w = .ok (.tuple #[]) w2 ∧ DiskAt w2 p b (M.del (.string s.data.toList)) (S.rem s.data.toList) Fp ∧ Turn Fp w w2 := by
  obtain ⟨w2, hrun, own2, ht⟩ := h.own.drop keyed Tryz.underlying102 (keyOfS s hs) ty
  have hg := ht.grown
  have hblk : ∀ k, k < w.heap.size → k ≠ b → w2.heap[k]? = w.heap[k]? := fun k hk hb => hg.block k hk (by simpa using hb)
  have hp2 := hblk p (h.lt p h.fp) h.pb
  have htidy := h.own.tidy keyed
  refine ⟨w2, hrun, ?_, Turn.of_grownBy hg (fun k hk => by cases hk; exact .inl h.fb)⟩
  refine { c0 := ?_, c1 := ?_, c2 := ?_, c3 := ?_, f1 := ?_, f2 := ?_, f3 := ?_, hl := h.hl, pb := h.pb, own := ownsMap_tight own2, sz := ?_, has := ?_, row := ?_, apart := ?_, fp := h.fp, fb := h.fb, lt := fun k hk => Nat.lt_of_lt_of_le (h.lt k hk) hg.size }
  · rw [World.cell?_of_block hp2]; exact h.c0
  · rw [World.cell?_of_block hp2]; exact h.c1
  · rw [World.cell?_of_block hp2]; exact h.c2
  · rw [World.cell?_of_block hp2]; exact h.c3
  · rw [World.frozen?_of_block hp2]; exact h.f1
  · rw [World.frozen?_of_block hp2]; exact h.f2
  · rw [World.frozen?_of_block hp2]; exact h.f3
  · have := size_del (k := .string s.data.toList) htidy
    rw [h.has, h.sz] at this
    simp only [DG.rem]
    split at this
    · rename_i h1; rw [if_pos h1]; omega
    · rename_i h1; rw [if_neg h1]; omega
  · intro l
    by_cases e : l = s.data.toList
    · subst e
      rw [has_del_same]
      simp [DG.rem]
    · rw [has_del_other (key_ne e), h.has]
      simp [DG.rem, e]
  · intro l bs' hf
    by_cases e : l = s.data.toList
    · simp [DG.rem, e] at hf
    · simp only [DG.rem, if_neg e] at hf
      obtain ⟨u, h1, h2, h3⟩ := h.row l bs' hf
      exact ⟨u, by rw [atKey_del_other (key_ne e)]; exact h1, ownsRow_move h2 (fun g hg' => hblk g (h.lt g (h3 g hg').1) (h3 g hg').2.2), h3⟩
  · intro l l' u u' g hl hl' hu hu' hg1 hg2'
    by_cases e : l = s.data.toList
    · simp [DG.rem, e] at hl
    · by_cases e' : l' = s.data.toList
      · simp [DG.rem, e'] at hl'
      · rw [atKey_del_other (key_ne e)] at hu
        rw [atKey_del_other (key_ne e')] at hu'
        simp only [DG.rem, if_neg e] at hl
        simp only [DG.rem, if_neg e'] at hl'
        exact h.apart l l' u u' g hl hl' hu hu' hg1 hg2'

theorem raw_any (k p : Nat) (caps : Array Value) (S S2 : DG) (Fp : Nat → Prop) (w : World) (hk : ∀ w, (callFunc k caps).run Tryz.prog w = .ok (.enter k caps) w) (hd : IsDisk w p S Fp) (hw : S.wr < 4611686018427387904)
    (hcl : ∀ w1, (∀ b M, DiskAt w p b M S Fp → DiskAt w1 p b M S.done Fp) → IsDisk w1 p S.done Fp → Turn (fun i => i = p) w w1 → w1.heap.size = w.heap.size → Calls Tryz.prog k caps w1 fun e w' => e = .returned (.tuple #[]) ∧ IsDisk w' p S2 (grow Fp w1 w') ∧ Turn Fp w1 w') :
    Calls Tryz.prog 67 #[.pointer (some ⟨p, 0, none⟩), .func (.func k) #[] caps] w fun e w' => e = .returned (.int .i64 (if S.can = true then 0 else 6)) ∧ IsDisk w' p (if S.can = true then S2 else S) (grow Fp w w') ∧ Turn Fp w w' := by
  have hlt := hd.lt
  have hp := hd.fp
  by_cases hc : S.can = true
  · simp only [hc, if_true]
    refine (raw_done k p _ S Fp _ (fun w' => IsDisk w' p S2 (grow Fp w w') ∧ Turn Fp w w') hk hd hw hc ?_).mono fun e w' ⟨he, hR⟩ => ⟨he, hR⟩
    intro w1 hkp hd1 hT1 hs1
    refine (hcl w1 hkp hd1 hT1 hs1).mono fun e w' ⟨he, hd', hT'⟩ => ⟨he, ?_⟩
    have hT2 : Turn Fp w w' := (hT1.wide (fun i h => by subst h; exact hp)).trans hT' (fun _ _ h => h)
    exact ⟨grow_lt hd' hlt (fun k hk => hk.elim .inl (fun h => .inr (by omega))) hT2.size, hT2⟩
  · simp only [hc, if_false, Bool.false_eq_true]
    refine (raw_cut k p _ S Fp _ hd (by simpa using hc)).mono fun e w' ⟨he, hw'⟩ => ⟨he, ?_⟩
    subst hw'
    exact ⟨grow_lt hd hlt (fun k hk => .inl hk) (Nat.le_refl _), Turn.refl _ _⟩

set_option maxRecDepth 20000 in
set_option maxHeartbeats 2000000 in
theorem truncate1_any (p : Nat) (S : DG) (Fp : Nat → Prop) (w : World) (s : ByteArray) (Bf Bm Bd Bn : Nat) (a : Option Addr) (m c n : Nat) (l : List UInt8) (hd : IsDisk w p S Fp)
    (hbf : w.cell? ⟨Bf, 0, none⟩ = some (.slice a m c)) (hbm : w.cell? ⟨Bm, 0, none⟩ = some (.int .i64 n)) (hbd : w.cell? ⟨Bd, 0, none⟩ = some (.pointer (some ⟨p, 0, none⟩))) (hbn : w.cell? ⟨Bn, 0, none⟩ = some (.string s))
    (nf : ¬ Fp Bf) (nm : ¬ Fp Bm) (nd : ¬ Fp Bd) (nn : ¬ Fp Bn) (hb : Bytes w a m l) (hmc : m ≤ c) (hnil : a = none → m = 0 ∧ c = 0) (hnm : n ≤ m) (hbig : m ≤ 140737488355328) (hs : s.size ≤ maxLen) (hn : S.n < maxLen) :
    Calls Tryz.prog 68 #[.pointer (some ⟨Bf, 0, none⟩), .pointer (some ⟨Bm, 0, none⟩), .pointer (some ⟨Bd, 0, none⟩), .pointer (some ⟨Bn, 0, none⟩)] w fun e w' =>
      e = .returned (.tuple #[]) ∧ IsDisk w' p (S.set s.data.toList (l.take n)) (grow Fp w w') ∧ Turn Fp w w' := by
  have hlt := hd.lt
  obtain ⟨b, M, hd⟩ := hd
  obtain ⟨vo, hvo, _, hvb⟩ := hd.value s.data.toList
  have c0 := hd.c0
  have hll := hb.1
  have hln : (l.take n).length = n := by simp; omega
  have hbt := hb.take n hnm
  have hclone := clone_any a n c (l.take n) w.drew ⟨hbt.1, hbt.2⟩ (fun h => ⟨by have := (hnil h).1; omega, (hnil h).2⟩) (by omega)
  have hput : ∀ a' c' w3, w3.ownsRow w.drew.heap.size 5 1 (.slice a' n c') n (cellsOf (l.take n)) → Below w.drew.heap.size w.drew w3 →
      Hid (w3.cell? ⟨Bf, 0, none⟩ = some (.slice a m c) ∧ w3.cell? ⟨Bm, 0, none⟩ = some (.int .i64 n) ∧ w3.cell? ⟨Bd, 0, none⟩ = some (.pointer (some ⟨p, 0, none⟩)) ∧ w3.cell? ⟨Bn, 0, none⟩ = some (.string s) ∧ w3.cell? ⟨p, 0, none⟩ = some (.map (some b))) ∧
      ∃ w4, (Instr.mapUpdate 102 (.map (some b)) (.string s) (.slice a' n c')).run Tryz.prog w3 = .ok () w4 ∧
        Hid (w4.cell? ⟨Bf, 0, none⟩ = some (.slice a m c) ∧ w4.cell? ⟨Bm, 0, none⟩ = some (.int .i64 n) ∧ w4.cell? ⟨Bd, 0, none⟩ = some (.pointer (some ⟨p, 0, none⟩)) ∧ w4.cell? ⟨Bn, 0, none⟩ = some (.string s) ∧ w4.cell? ⟨p, 0, none⟩ = some (.map (some b))) ∧
        Hid (IsDisk w4 p (S.set s.data.toList (l.take n)) (grow Fp w w4) ∧ Turn Fp w w4) := by
    intro a' c' w3 ho hB3
    have hB3' : Below w.heap.size w w3 := ⟨hB3.os, hB3.tape, hB3.output, hB3.size, hB3.block⟩
    refine ⟨⟨?_, ?_, ?_, ?_, ?_⟩, ?_⟩
    · rw [hB3'.cell (World.block_lt_of_cell? w _ hbf)]; exact hbf
    · rw [hB3'.cell (World.block_lt_of_cell? w _ hbm)]; exact hbm
    · rw [hB3'.cell (World.block_lt_of_cell? w _ hbd)]; exact hbd
    · rw [hB3'.cell (World.block_lt_of_cell? w _ hbn)]; exact hbn
    · rw [hB3'.cell (World.block_lt_of_cell? w _ c0)]; exact c0
    · have ho' : w3.ownsRow 0 5 1 (.slice a' n c') (l.take n).length (cellsOf (l.take n)) := by rw [hln]; exact ownsRow_zero ho
      obtain ⟨w4, hr4, hd4, hT4⟩ := hd.put (w1 := w3) s hs vo (.slice a' n c') (l.take n) hvo hvb ⟨hB3.os, hB3.tape, hB3.output, hB3.size, fun k hk _ => hB3.block k hk⟩ ho' (hd.free_new _ _ (fun g hg => (ho.lt g hg).1)) hn
      exact ⟨w4, hr4, ⟨hT4.cell hbf nf, hT4.cell hbm nm, hT4.cell hbd nd, hT4.cell hbn nn, hd4.c0⟩, ⟨b, _, hd4⟩, hT4⟩
  have i0 : (0 : Int) ≤ (n : Int) := by omega
  have i1 : (n : Int) ≤ (c : Int) := by omega
  clear hd hvo hvb hb hbt
  go_enter Tryz.func68, Tryz.ntmps68
  go_wp2_with fail
  go_region_held3 (fun W => W.cell? ⟨Bf, 0, none⟩ = some (.slice a m c) ∧ W.cell? ⟨Bm, 0, none⟩ = some (.int .i64 n) ∧ W.cell? ⟨Bd, 0, none⟩ = some (.pointer (some ⟨p, 0, none⟩)) ∧ W.cell? ⟨Bn, 0, none⟩ = some (.string s) ∧ W.cell? ⟨p, 0, none⟩ = some (.map (some b)))
    (first
      | (go_split_ands
         refine ⟨by go_keep, by go_keep, by go_keep, by go_keep, by go_keep⟩)
      | (exact hc3.out)
      | (exact hc4.out))
    ((go_at_call 51; refine hclone.mono ?_; rintro e w3 ⟨a', c', rfl, ho3, hB3, hnc3, hnn3⟩; obtain ⟨hc3, w4, hupd, hc4, hfin⟩ := hput a' c' w3 ho3 hB3))
  go_wp2
  go_end0
  exact ⟨rfl, hfin.out⟩

end Go.Proofs.YtojpbemfbjkjjaaGreat

/- What Truncate, Rename and Remove leave and answer; their walks. -/
namespace Go.Proofs.YtojpbemfbjkjjaaGreat
open Go.RowKit Go.Maps

def DG.remove (S : DG) (l : List UInt8) : DG × Int := if S.f l = none then (S, 4) else if S.can = true then (S.done.rem l, 0) else (S, 6)
def DG.trunc (S : DG) (l : List UInt8) (n : Int) : DG × Int :=
  if S.f l = none then (S, 4) else if n < 0 ∨ n > ((S.bs l).length : Int) then (S, 2) else if n = ((S.bs l).length : Int) then (S, 0) else if S.can = true then (S.done.set l ((S.bs l).take n.toNat), 0) else (S, 6)
def DG.renam (S : DG) (l t : List UInt8) : DG × Int :=
  if nameB t = false then (S, 2) else if S.f l = none then (S, 4) else if l = t then (S, 0) else if S.can = true then ((S.done.rem l).set t (S.bs l), 0) else (S, 6)

theorem callEnter {k : Nat} {f : Func} (hf : Tryz.prog.funcs[k]? = some f) (h1 : ¬ f.name = "runtime.NumGoroutine") (h3 : f.body.isNone = false) (caps : Array Value) (w : World) : (callFunc k caps).run Tryz.prog w = .ok (.enter k caps) w := by
  have h2 : ¬ f.body = Option.none := fun e => by rw [e] at h3; cases h3
  simp [callFunc, go_sem, hf, h1, h2]
theorem callTrunc (caps : Array Value) (w : World) : (callFunc 68 caps).run Tryz.prog w = .ok (.enter 68 caps) w := callEnter Tryz.func68 (by decide +kernel) (by kernel_rfl) caps w
/-- a call that began with new boxes of its own -/
theorem boxed_end {w w0 w' : World} {p : Nat} {S : DG} {Fp : Nat → Prop} (hlt : ∀ k, Fp k → k < w.heap.size) (hB : Below w.heap.size w w0) (h : IsDisk w' p S (grow Fp w0 w') ∧ Turn Fp w0 w') : IsDisk w' p S (grow Fp w w') ∧ Turn Fp w w' := by
  have hT : Turn Fp w w' := (Turn.of_below Fp hB).trans h.2 (fun _ _ h => h)
  exact ⟨grow_lt h.1 hlt (fun k hk => hk.elim .inl (fun h1 => .inr (by have := hB.size; omega))) hT.size, hT⟩
theorem boxed_same {w w0 : World} {p : Nat} {S : DG} {Fp : Nat → Prop} (hlt : ∀ k, Fp k → k < w.heap.size) (hB : Below w.heap.size w w0) (h : IsDisk w p S Fp) : IsDisk w0 p S (grow Fp w w0) ∧ Turn Fp w w0 :=
  ⟨grow_lt (h.below hB) hlt (fun _ hk => .inl hk) hB.size, Turn.of_below Fp hB⟩

theorem cell_new1 (w : World) (u : Value) (t : TypeId) : (w.alloc (.cells #[u] t)).cell? ⟨w.heap.size, 0, none⟩ = some u := by simp
theorem box3 (w : World) (u v x : Value) (t1 t2 t3 : TypeId) : (((w.alloc (.cells #[u] t1)).alloc (.cells #[v] t2)).alloc (.cells #[x] t3)).cell? ⟨w.heap.size, 0, none⟩ = some u ∧ (((w.alloc (.cells #[u] t1)).alloc (.cells #[v] t2)).alloc (.cells #[x] t3)).cell? ⟨w.heap.size + 1, 0, none⟩ = some v ∧
    (((w.alloc (.cells #[u] t1)).alloc (.cells #[v] t2)).alloc (.cells #[x] t3)).cell? ⟨w.heap.size + 1 + 1, 0, none⟩ = some x := by
  have h1 := cell_new1 w u t1
  have h2 := cell_new1 (w.alloc (.cells #[u] t1)) v t2
  have h3 := cell_new1 ((w.alloc (.cells #[u] t1)).alloc (.cells #[v] t2)) x t3
  rw [World.size_alloc] at h2
  rw [World.size_alloc, World.size_alloc] at h3
  refine ⟨?_, ?_, h3⟩
  · exact (World.grownBy_alloc _ _ none).cell ((World.grownBy_alloc _ _ none).cell h1 (by simp)) (by simp)
  · exact (World.grownBy_alloc _ _ none).cell h2 (by simp)

theorem below_box {w w1 : World} {o : Obj} (h : Below w.heap.size w w1) : Below w.heap.size w (w1.alloc o) := h.alloc h.size o

set_option maxRecDepth 20000 in
set_option maxHeartbeats 4000000 in
theorem truncate_any (p : Nat) (S : DG) (Fp : Nat → Prop) (w : World) (s : ByteArray) (n : Int) (hd : IsDisk w p S Fp) (hs : s.size ≤ maxLen) (hw : S.wr < 4611686018427387904) (hn : S.n < maxLen) (hbig : (S.bs s.data.toList).length ≤ 4194304) :
    Calls Tryz.prog 49 #[.pointer (some ⟨p, 0, none⟩), .string s, .int .i64 n] w fun e w' =>
      e = .returned (.int .i64 (S.trunc s.data.toList n).2) ∧ IsDisk w' p (S.trunc s.data.toList n).1 (grow Fp w w') ∧ Turn Fp w w' := by
  have hlt := hd.lt
  obtain ⟨w0, hw0⟩ : ∃ w0, w0 = ((w.alloc (.cells #[.pointer (some ⟨p, 0, none⟩)] 64)).alloc (.cells #[.string s] 9)).alloc (.cells #[.int .i64 n] 3) := ⟨_, rfl⟩
  have hk := box3 w (.pointer (some ⟨p, 0, none⟩)) (.string s) (.int .i64 n) 64 9 3
  have hB0 : Below w.heap.size w w0 := by rw [hw0]; exact below_box (below_box (below_box (Below.refl _ _)))
  have hz0 : w0.heap.size = w.heap.size + 3 := by rw [hw0]; simp
  rw [← hw0] at hk
  have k0 := hk.1
  have k1 := hk.2.1
  have k2 := hk.2.2
  have hd0 := hd.below hB0
  have hfile := file_any p S Fp w0 s hd0 hs
  change Calls _ _ _ _ fun e w' => ∃ a c, e = .returned (.tuple #[.slice a (S.bs s.data.toList).length c, .int .i64 (S.err s.data.toList)]) ∧ w' = w0 ∧ Bytes w0 a (S.bs s.data.toList).length (S.bs s.data.toList) ∧ (S.bs s.data.toList).length ≤ c ∧ (a = none → (S.bs s.data.toList).length = 0 ∧ c = 0) ∧ ∃ b M, DiskAt w0 p b M S Fp ∧ M.atKey (.string s.data.toList) nils = .held (.slice a (S.bs s.data.toList).length c) at hfile
  have nf : ∀ j, ¬ Fp (w.heap.size + j) := fun j h => by have := hlt _ h; omega
  have hraw : ∀ (a : Option Addr) (c m : Nat), n = (m : Int) → m ≤ (S.bs s.data.toList).length → Bytes w0 a (S.bs s.data.toList).length (S.bs s.data.toList) → (S.bs s.data.toList).length ≤ c → (a = none → (S.bs s.data.toList).length = 0 ∧ c = 0) → (∃ b M, DiskAt w0 p b M S Fp ∧ M.atKey (.string s.data.toList) nils = .held (.slice a (S.bs s.data.toList).length c)) → S.f s.data.toList = some (S.bs s.data.toList) →
      Calls Tryz.prog 67 #[.pointer (some ⟨p, 0, none⟩), .func (.func 68) #[] #[.pointer (some ⟨w0.heap.size, 0, none⟩), .pointer (some ⟨w.heap.size + 1 + 1, 0, none⟩), .pointer (some ⟨w.heap.size, 0, none⟩), .pointer (some ⟨w.heap.size + 1, 0, none⟩)]] (w0.alloc (.cells #[.slice a (S.bs s.data.toList).length c] 70)) fun e w' =>
        e = .returned (.int .i64 (if S.can = true then 0 else 6)) ∧ IsDisk w' p (if S.can = true then S.done.set s.data.toList ((S.bs s.data.toList).take m) else S) (grow Fp w w') ∧ Turn Fp w w' := by
    intro a c m hnm hm hb hc hnil hv hf
    have hBa : Below w.heap.size w (w0.alloc (.cells #[.slice a (S.bs s.data.toList).length c] 70)) := below_box hB0
    have hBa' : Below w0.heap.size w0 (w0.alloc (.cells #[.slice a (S.bs s.data.toList).length c] 70)) := below_box (Below.refl _ _)
    have hda := hd.below hBa
    have hp := hd.fp
    have np : ∀ j, ¬ w.heap.size + j = p := fun j e => nf j (by rw [e]; exact hp)
    subst hnm
    refine (raw_any 68 p _ S (S.done.set s.data.toList ((S.bs s.data.toList).take m)) Fp _ (callTrunc _) hda hw ?_).mono fun e w' ⟨he, hR⟩ => ⟨he, boxed_end hlt hBa hR⟩
    intro w1 _ hd1 hT1 _
    refine truncate1_any p S.done Fp w1 s w0.heap.size (w.heap.size + 1 + 1) w.heap.size (w.heap.size + 1) a _ c m _ hd1 ?_ ?_ ?_ ?_ ?_ (nf 2) (nf 0) (nf 1) ?_ hc hnil hm (by omega) hs hn
    · exact hT1.cell (by simp) (by simp only; rw [hz0]; exact np 3)
    · exact hT1.cell (by rw [hBa'.cell (World.block_lt_of_cell? w0 _ k2)]; exact k2) (np 2)
    · exact hT1.cell (by rw [hBa'.cell (World.block_lt_of_cell? w0 _ k0)]; exact k0) (np 0)
    · exact hT1.cell (by rw [hBa'.cell (World.block_lt_of_cell? w0 _ k1)]; exact k1) (np 1)
    · rw [hz0]; exact nf 3
    · have hrp : ∀ x, a = some x → ¬ x.block = p := by
        intro x hx e
        obtain ⟨b, M, hD, hv⟩ := hv
        obtain ⟨v0, hv0, _, hg0⟩ := hD.row _ _ hf
        rw [hv] at hv0
        cases hv0
        exact (hg0 x.block (by rw [hx]; rfl)).2.1 e
      have h1 : Bytes (w0.alloc (.cells #[.slice a (S.bs s.data.toList).length c] 70)) a _ _ := (Turn.of_below (fun _ => False) hBa').bytes hb (fun _ _ _ => id)
      exact hT1.bytes h1 (fun _ x hx e => hrp x hx e)
  have HS := fun (a : Option Addr) (c : Nat) => boxed_same (w0 := w0.alloc (.cells #[.slice a (S.bs s.data.toList).length c] 70)) hlt (below_box hB0) hd
  have q0 := fun o => (World.grownBy_alloc w0 o none).cell k0 (by simp)
  have q1 := fun o => (World.grownBy_alloc w0 o none).cell k1 (by simp)
  have q2 := fun o => (World.grownBy_alloc w0 o none).cell k2 (by simp)
  cases hf : S.f s.data.toList with
  | none =>
    have e : S.trunc s.data.toList n = (S, 4) := by simp [DG.trunc, hf]
    have er : S.err s.data.toList = 4 := by simp [DG.err, hf]
    rw [e]
    rw [er] at hfile
    generalize (S.bs s.data.toList) = bs at *
    go_enter Tryz.func49, Tryz.ntmps49
    go_wp2_with fail
    rw [← hw0]
    clear hw0 hraw hd0
    refine hfile.mono ?_
    rintro e w2 ⟨a, c, rfl, rfl, _⟩
    go_wp2
    go_ret
    exact ⟨rfl, HS a c⟩
  | some bs0 =>
    have hfb : S.f s.data.toList = some (S.bs s.data.toList) := by simp [DG.bs, hf]
    have er : S.err s.data.toList = 0 := by simp [DG.err, hf]
    rw [er] at hfile
    have HR : Hid (∀ (a : Option Addr) (c m : Nat), n = (m : Int) → m ≤ (S.bs s.data.toList).length → Bytes w0 a (S.bs s.data.toList).length (S.bs s.data.toList) → (S.bs s.data.toList).length ≤ c → (a = none → (S.bs s.data.toList).length = 0 ∧ c = 0) → (∃ b M, DiskAt w0 p b M S Fp ∧ M.atKey (.string s.data.toList) nils = .held (.slice a (S.bs s.data.toList).length c)) → S.f s.data.toList = some (S.bs s.data.toList) →
      Calls Tryz.prog 67 #[.pointer (some ⟨p, 0, none⟩), .func (.func 68) #[] #[.pointer (some ⟨w0.heap.size, 0, none⟩), .pointer (some ⟨w.heap.size + 1 + 1, 0, none⟩), .pointer (some ⟨w.heap.size, 0, none⟩), .pointer (some ⟨w.heap.size + 1, 0, none⟩)]] (w0.alloc (.cells #[.slice a (S.bs s.data.toList).length c] 70)) fun e w' =>
        e = .returned (.int .i64 (if S.can = true then 0 else 6)) ∧ IsDisk w' p (if S.can = true then S.done.set s.data.toList ((S.bs s.data.toList).take m) else S) (grow Fp w w') ∧ Turn Fp w w') := hraw
    clear hraw hf
    by_cases h1 : n < 0
    · have e : S.trunc s.data.toList n = (S, 2) := by simp [DG.trunc, hfb, h1]
      rw [e]
      generalize (S.bs s.data.toList) = bs at *
      go_enter Tryz.func49, Tryz.ntmps49
      go_wp2_with fail
      rw [← hw0]
      clear hw0 HR hd0
      refine hfile.mono ?_
      rintro e w2 ⟨a, c, rfl, rfl, _⟩
      go_wp2
      go_ret
      exact ⟨rfl, HS a c⟩
    · by_cases h2 : ((S.bs s.data.toList).length : Int) < n
      · have e : S.trunc s.data.toList n = (S, 2) := by simp [DG.trunc, hfb, h2]
        rw [e]
        generalize (S.bs s.data.toList) = bs at *
        go_enter Tryz.func49, Tryz.ntmps49
        go_wp2_with fail
        rw [← hw0]
        clear hw0 HR hd0
        refine hfile.mono ?_
        rintro e w2 ⟨a, c, rfl, rfl, _⟩
        go_wp2
        go_ret
        exact ⟨rfl, HS a c⟩
      · obtain ⟨m, rfl⟩ : ∃ m : Nat, n = (m : Int) := ⟨n.toNat, by omega⟩
        by_cases h3 : m = (S.bs s.data.toList).length
        · have e : S.trunc s.data.toList m = (S, 0) := by
            unfold DG.trunc
            rw [if_neg (by simp [hfb]), if_neg (by omega), if_pos (by omega)]
          rw [e]
          generalize (S.bs s.data.toList) = bs at *
          subst h3
          go_enter Tryz.func49, Tryz.ntmps49
          go_wp2_with fail
          rw [← hw0]
          clear hw0 HR hd0
          refine hfile.mono ?_
          rintro e w2 ⟨a, c, rfl, rfl, _⟩
          go_wp2
          go_ret
          exact ⟨rfl, HS a c⟩
        · have h3' : ¬ (m : Int) = ((S.bs s.data.toList).length : Int) := by omega
          have HE : Hid ((S.trunc s.data.toList m).2 = (if S.can = true then 0 else 6) ∧ (S.trunc s.data.toList m).1 = (if S.can = true then S.done.set s.data.toList ((S.bs s.data.toList).take m) else S)) := by
            have e : S.trunc s.data.toList m = (if S.can = true then (S.done.set s.data.toList ((S.bs s.data.toList).take m), 0) else (S, 6)) := by
              unfold DG.trunc
              rw [if_neg (by simp [hfb]), if_neg (by omega), if_neg (by omega)]
              rfl
            refine ⟨?_, ?_⟩ <;> rw [e] <;> split <;> rfl
          have HR2 := fun a c => HR.out a c m rfl
          rw [← HE.out.1, ← HE.out.2] at HR2
          have HR3 : Hid _ := HR2
          clear HR HR2
          generalize S.trunc s.data.toList m = T at *
          generalize (S.bs s.data.toList) = bs at *
          go_enter Tryz.func49, Tryz.ntmps49
          go_wp2_with fail
          rw [← hw0]
          clear hw0 hd0 HS
          refine hfile.mono ?_
          rintro e w2 ⟨a, c, rfl, rfl, hb, hc, hnl, hDM⟩
          have hraw := HR3.out a c (by omega) hb hc hnl hDM hfb
          have g1 : ¬ (m : Int) < 0 := by omega
          have g2 : ¬ (bs.length : Int) < (m : Int) := by omega
          have g3 : ¬ (m : Int) = (bs.length : Int) := by omega
          clear HR3 hDM hb hk hz0 HE nf hfb er hbig hn hw hs hd hlt h1 h2 h3 h3' hnl hc hB0 hfile
          go_wp2_with fail
          refine hraw.mono ?_
          rintro e w3 ⟨rfl, hR⟩
          go_wp2
          go_ret
          exact ⟨rfl, hR⟩

theorem bytes_ext {s t : ByteArray} (h : s.data.toList = t.data.toList) : s = t := by
  cases s; cases t
  simp at h
  rw [h]

end Go.Proofs.YtojpbemfbjkjjaaGreat
