import Derived.Test.YtdjodigimhgklaaGreatDoorMD10
import Derived.Test.YtdjodigimhgklaaGreatDoorMD05
import Derived.Test.YtdjodigimhgklaaGreatDoorMD09
import Derived.Test.YtdjodigimhgklaaGreatDoorMD06
/- Bytes turned into a string; the walk of the comparison of bytes; append under a guard; what pieces leave, in closed form. -/
namespace Go.Proofs.YtdjodigimhgklaaGreatDoor
open Go.RowKit Go.Maps



set_option maxHeartbeats 1000000 in
theorem equal_any (w : World) (a b : Option Addr) (n m c d : Nat) (l k : List UInt8) (ha : Bytes w a n l) (hb : Bytes w b m k) :
    Calls Tryz.prog 25 #[.slice a n c, .slice b m d] w fun e w' => e = .returned (.bool (decide (l = k))) ∧ w' = w := by
  have r1 := run_string w a n c l ha
  have r2 := run_string w b m d k hb
  go_enter Tryz.func25, Tryz.ntmps25
  go_wp2
  go_ret
  refine ⟨?_, rfl⟩
  simp
  rw [Bool.eq_iff_iff]
  simp

theorem wpList_append_row_g (w : World) {ops : Array Oper} {rest : List Oper} {o : Oper} {a : Act} {Q : Exit → Act → World → Prop} (hgd : Region.wanted o (yielded ops a.tmps) = true) (s x : Operand)
    (ho : o.op = .call { callee := .builtin .append, args := #[s, x], argTypes := #[33, 33] })
    (v : Value) (n : Nat) (xs : List Value) (hs : a.eval s = v) (hown : w.ownsRow 0 5 1 v n xs) (ad : Option Addr) (m c : Nat) (l : List UInt8) (hx : a.eval x = .slice ad m c) (hb : Bytes w ad m l) (hnil : ad = none → m = 0 ∧ c = 0) (hm : n + m ≤ 140737488355328)
    (h : ∀ v' w', w'.ownsRow 0 5 1 v' (n + m) (xs ++ cellsOf l) → w.grownBy w' v.ownBlock → (v'.ownBlock = v.ownBlock ∨ v'.ownBlock = some w.heap.size) → wpList Tryz.prog ops Q rest (a.put o.dst v') w') : wpList Tryz.prog ops Q (o :: rest) a w := by
  unfold wpList
  rw [if_pos hgd]
  exact .inl (wp_append_row w s x ho v n xs hs hown ad m c l hx hb hnil hm h)

/-! ### what pieces leave -/
theorem add_add (S : DG) (nm l k : List UInt8) : (S.add nm l).add nm k = S.add nm (l ++ k) := by
  unfold DG.add DG.set
  simp only [if_true, Option.getD_some, Option.isSome_some, List.append_assoc]
  congr 1
  funext x
  split <;> rfl
theorem done_add (S : DG) (nm l : List UInt8) : (S.add nm l).done = S.done.add nm l := rfl
theorem add_wr (S : DG) (nm l : List UInt8) (n : Nat) : { S.add nm l with wr := n } = { S with wr := n }.add nm l := rfl

theorem pieces_free : ∀ (k : Nat) (S : DG) (nm l : List UInt8), S.cut = false → l.length + 1 ≤ k → pieces k S nm l = ({ S with wr := S.wr + (if l = [] then 1 else (l.length + 31) / 32) }.add nm l, 0) := by
  intro k
  induction k with
  | zero => intro S nm l _ h; omega
  | succ k ih =>
    intro S nm l hc h
    rw [pieces, if_pos (by simp [DG.can, hc])]
    split
    · rename_i h32
      have e : (if l = [] then 1 else (l.length + 31) / 32) = 1 := by
        split
        · rfl
        · rename_i h0
          have : l.length ≠ 0 := fun h' => h0 (List.eq_nil_of_length_eq_zero h')
          omega
      rw [e]
      simp [DG.done, hc]
    · rename_i h32
      rw [ih _ nm (l.drop 32) (by simp [DG.add, DG.set, DG.done, hc]) (by simp; omega)]
      have hne : l.drop 32 ≠ [] := fun h' => by have := congrArg List.length h'; simp at this; omega
      have hl0 : l ≠ [] := fun h' => by rw [h'] at h32; simp at h32
      rw [if_neg hne, if_neg hl0, add_wr]
      congr 1
      have e1 : (S.done.add nm (l.take 32)).wr + ((l.drop 32).length + 31) / 32 = S.wr + (l.length + 31) / 32 := by
        simp [DG.add, DG.set, DG.done]; omega
      rw [e1]
      have e2 : { S.done with wr := S.wr + (l.length + 31) / 32 } = { S with wr := S.wr + (l.length + 31) / 32 } := by simp [DG.done, hc]
      rw [e2, add_add, List.take_append_drop]

theorem pieces_cut : ∀ (k : Nat) (S : DG) (nm l : List UInt8), S.cut = true → l.length + 1 ≤ k → S.left * 32 < l.length → (pieces k S nm l).2 = 6 ∧ (pieces k S nm l).1.bs nm = S.bs nm ++ l.take (S.left * 32) ∧ (S.left = 0 → (pieces k S nm l).1 = S) := by
  intro k
  induction k with
  | zero => intro S nm l _ h; omega
  | succ k ih =>
    intro S nm l hc h hlt
    by_cases h0 : S.left = 0
    · rw [pieces, if_neg (by simp [DG.can, hc, h0])]
      simp [h0]
    · rw [pieces, if_pos (by simp [DG.can, hc, h0]), if_neg (by omega)]
      obtain ⟨h1, h2, _⟩ := ih (S.done.add nm (l.take 32)) nm (l.drop 32) (by simp [DG.add, DG.set, DG.done, hc]) (by simp; omega) (by simp [DG.add, DG.set, DG.done, hc]; omega)
      refine ⟨h1, ?_, fun h' => absurd h' h0⟩
      rw [h2]
      have e : (S.done.add nm (l.take 32)).left = S.left - 1 := by simp [DG.add, DG.set, DG.done, hc]
      have e1 : (S.done.add nm (l.take 32)).bs nm = S.bs nm ++ l.take 32 := by simp [DG.add, DG.set, DG.done, DG.bs]
      rw [e, e1, List.append_assoc]
      congr 1
      have : S.left * 32 = 32 + (S.left - 1) * 32 := by omega
      rw [this, List.take_add]

end Go.Proofs.YtdjodigimhgklaaGreatDoor

/- The walks of Truncate, Rename and Remove. -/
namespace Go.Proofs.YtdjodigimhgklaaGreatDoor
open Go.RowKit Go.Maps

/-- a file is gone -/
def DG.rem (S : DG) (l : List UInt8) : DG := { S with f := fun x => if x = l then none else S.f x, n := if (S.f l).isSome then S.n - 1 else S.n }

theorem wp_delete_run (w : World) {o : Oper} {a : Act} {K : Act → World → Prop} {Q : Exit → Act → World → Prop} (s x : Operand)
    (ho : o.op = .call { callee := .builtin .delete, args := #[s, x], argTypes := #[83, 9] })
    (m k : Value) (hs : a.eval s = m) (hx : a.eval x = k) (w' : World) (hr : (Builtin.delete_ #[83, 9] o.type #[m, k]).run Tryz.prog w = .ok (.tuple #[]) w')
    (h : K (a.put o.dst (.tuple #[])) w') : o.wp Tryz.prog a w K Q := by
  unfold Oper.wp execOp
  simp only [ho, resolve, invoke, builtin, Sem.run_bind, Sem.run_pure, Result.andThen_ok, List.map_toArray, List.map_cons, List.map_nil, hs, hx, hr]
  exact h

theorem step_delete_run (w : World) {ops : Array Oper} {o : Oper} {a : Act} {K : Act → World → Prop} {Q : Exit → Act → World → Prop} {E : Prop} (hgd : o.guard = none) (s x : Operand)
    (ho : o.op = .call { callee := .builtin .delete, args := #[s, x], argTypes := #[83, 9] })
    (m k : Value) (hs : a.eval s = m) (hx : a.eval x = k) (w' : World) (hr : (Builtin.delete_ #[83, 9] o.type #[m, k]).run Tryz.prog w = .ok (.tuple #[]) w')
    (h : K (a.put o.dst (.tuple #[])) w') :
    if Region.wanted o (yielded ops a.tmps) = true then Oper.wp Tryz.prog o a w K Q else E := by
  have hw : Region.wanted o (yielded ops a.tmps) = true := by simp [Region.wanted, hgd]
  rw [if_pos hw]
  exact wp_delete_run w s x ho m k hs hx w' hr h

theorem DiskAt.drop {w : World} {p b : Nat} {M : DataW Value} {S : DG} {Fp : Nat → Prop} (h : DiskAt w p b M S Fp) (s : ByteArray) (hs : s.size ≤ maxLen) (ty : TypeId) :
    ∃ w2, (Builtin.delete_ #[83, 9] ty #[.map (some b), .string s]).run Tryz.prog w = .ok (.tuple #[]) w2 ∧ DiskAt w2 p b (M.del (.string s.data.toList)) (S.rem s.data.toList) Fp ∧ Turn Fp w w2 := by
  obtain ⟨w2, hrun, own2, ht⟩ := h.own.drop keyed Tryz.underlying83 (keyOfS s hs) ty
  have hg := ht.grown
  have hblk : ∀ k, k < w.heap.size → k ≠ b → w2.heap[k]? = w.heap[k]? := fun k hk hb => hg.block k hk (by simpa using hb)
  have hp2 := hblk p (h.lt p h.fp) h.pb
  have htidy := h.own.tidy keyed
  refine ⟨w2, hrun, ?_, Turn.of_grownBy hg (fun k hk => by cases hk; exact .inl h.fb)⟩
  refine { c0 := ?_, c1 := ?_, c2 := ?_, c3 := ?_, f1 := ?_, f2 := ?_, f3 := ?_, hl := h.hl, pb := h.pb, own := ownsMap_tight own2, sz := ?_, has := ?_, row := ?_, apart := ?_, fp := h.fp, fb := h.fb, lt := fun k hk => Nat.lt_of_lt_of_le (h.lt k hk) hg.size }
  · rw [World.cell?_of_block hp2]; exact h.c0
  · rw [World.cell?_of_block hp2]; exact h.c1
  · rw [World.cell?_of_block hp2]; exact h.c2
  · rw [World.cell?_of_block hp2]; exact h.c3
  · rw [World.frozen?_of_block hp2]; exact h.f1
  · rw [World.frozen?_of_block hp2]; exact h.f2
  · rw [World.frozen?_of_block hp2]; exact h.f3
  · have := size_del (k := .string s.data.toList) htidy
    rw [h.has, h.sz] at this
    simp only [DG.rem]
    split at this
    · rename_i h1; rw [if_pos h1]; omega
    · rename_i h1; rw [if_neg h1]; omega
  · intro l
    by_cases e : l = s.data.toList
    · subst e
      rw [has_del_same]
      simp [DG.rem]
    · rw [has_del_other (key_ne e), h.has]
      simp [DG.rem, e]
  · intro l bs' hf
    by_cases e : l = s.data.toList
    · simp [DG.rem, e] at hf
    · simp only [DG.rem, if_neg e] at hf
      obtain ⟨u, h1, h2, h3⟩ := h.row l bs' hf
      exact ⟨u, by rw [atKey_del_other (key_ne e)]; exact h1, ownsRow_move h2 (fun g hg' => hblk g (h.lt g (h3 g hg').1) (h3 g hg').2.2), h3⟩
  · intro l l' u u' g hl hl' hu hu' hg1 hg2'
    by_cases e : l = s.data.toList
    · simp [DG.rem, e] at hl
    · by_cases e' : l' = s.data.toList
      · simp [DG.rem, e'] at hl'
      · rw [atKey_del_other (key_ne e)] at hu
        rw [atKey_del_other (key_ne e')] at hu'
        simp only [DG.rem, if_neg e] at hl
        simp only [DG.rem, if_neg e'] at hl'
        exact h.apart l l' u u' g hl hl' hu hu' hg1 hg2'

theorem raw_any (k p : Nat) (caps : Array Value) (S S2 : DG) (Fp : Nat → Prop) (w : World) (hk : ∀ w, (callFunc k caps).run Tryz.prog w = .ok (.enter k caps) w) (hd : IsDisk w p S Fp) (hw : S.wr < 4611686018427387904)
    (hcl : ∀ w1, (∀ b M, DiskAt w p b M S Fp → DiskAt w1 p b M S.done Fp) → IsDisk w1 p S.done Fp → Turn (fun i => i = p) w w1 → w1.heap.size = w.heap.size → Calls Tryz.prog k caps w1 fun e w' => e = .returned (.tuple #[]) ∧ IsDisk w' p S2 (grow Fp w1 w') ∧ Turn Fp w1 w') :
    Calls Tryz.prog 95 #[.pointer (some ⟨p, 0, none⟩), .func (.func k) #[] caps] w fun e w' => e = .returned (.int .i64 (if S.can = true then 0 else 6)) ∧ IsDisk w' p (if S.can = true then S2 else S) (grow Fp w w') ∧ Turn Fp w w' := by
  have hlt := hd.lt
  have hp := hd.fp
  by_cases hc : S.can = true
  · simp only [hc, if_true]
    refine (raw_done k p _ S Fp _ (fun w' => IsDisk w' p S2 (grow Fp w w') ∧ Turn Fp w w') hk hd hw hc ?_).mono fun e w' ⟨he, hR⟩ => ⟨he, hR⟩
    intro w1 hkp hd1 hT1 hs1
    refine (hcl w1 hkp hd1 hT1 hs1).mono fun e w' ⟨he, hd', hT'⟩ => ⟨he, ?_⟩
    have hT2 : Turn Fp w w' := (hT1.wide (fun i h => by subst h; exact hp)).trans hT' (fun _ _ h => h)
    exact ⟨grow_lt hd' hlt (fun k hk => hk.elim .inl (fun h => .inr (by omega))) hT2.size, hT2⟩
  · simp only [hc, if_false, Bool.false_eq_true]
    refine (raw_cut k p _ S Fp _ hd (by simpa using hc)).mono fun e w' ⟨he, hw'⟩ => ⟨he, ?_⟩
    subst hw'
    exact ⟨grow_lt hd hlt (fun k hk => .inl hk) (Nat.le_refl _), Turn.refl _ _⟩

set_option maxRecDepth 20000 in
set_option maxHeartbeats 2000000 in
theorem remove1_any (p : Nat) (S : DG) (Fp : Nat → Prop) (w : World) (s : ByteArray) (Bd Bn : Nat) (hd : IsDisk w p S Fp)
    (hbd : w.cell? ⟨Bd, 0, none⟩ = some (.pointer (some ⟨p, 0, none⟩))) (hbn : w.cell? ⟨Bn, 0, none⟩ = some (.string s)) (nd : ¬ Fp Bd) (nn : ¬ Fp Bn) (hs : s.size ≤ maxLen) :
    Calls Tryz.prog 128 #[.pointer (some ⟨Bd, 0, none⟩), .pointer (some ⟨Bn, 0, none⟩)] w fun e w' =>
      e = .returned (.tuple #[]) ∧ IsDisk w' p (S.rem s.data.toList) (grow Fp w w') ∧ Turn Fp w w' := by
  have hlt := hd.lt
  obtain ⟨b, M, hd⟩ := hd
  have c0 := hd.c0
  have hdD : DiskAt w.drew p b M S Fp := hd.kept (Nat.le_refl _) (fun _ _ => rfl)
  obtain ⟨w2, hrun, hd2, hT2⟩ := hdD.drop s hs 0
  have hT2' : Turn Fp w w2 := ⟨hT2.os, hT2.tape, hT2.output, hT2.size, hT2.block⟩
  have hc2 := hd2.c0
  have k1 := hT2'.cell hbd nd
  have k2 := hT2'.cell hbn nn
  have hR : Hid (IsDisk w2 p (S.rem s.data.toList) (grow Fp w w2) ∧ Turn Fp w w2) := ⟨grow_lt ⟨b, _, hd2⟩ hlt (fun k hk => .inl hk) hT2'.size, hT2'⟩
  clear hd2 hT2 hdD hd hT2'
  go_enter Tryz.func128, Tryz.ntmps128
  go_wp2_with fail
  go_region_held3 (fun W => W.cell? ⟨Bd, 0, none⟩ = some (.pointer (some ⟨p, 0, none⟩)) ∧ W.cell? ⟨Bn, 0, none⟩ = some (.string s) ∧ W.cell? ⟨p, 0, none⟩ = some (.map (some b)))
    (first
      | (go_split_ands
         refine ⟨by go_keep, by go_keep, by go_keep⟩)
      | (exact ⟨k1, k2, hc2⟩))
    ((refine step_delete_run _ (by rfl) _ _ (by rfl) (.map (some b)) (.string s) (by rfl) (by rfl) w2 hrun ?_))
  go_wp2
  go_end0
  exact ⟨rfl, hR.out⟩

set_option maxRecDepth 20000 in
set_option maxHeartbeats 2000000 in
theorem truncate1_any (p : Nat) (S : DG) (Fp : Nat → Prop) (w : World) (s : ByteArray) (Bf Bm Bd Bn : Nat) (a : Option Addr) (m c n : Nat) (l : List UInt8) (hd : IsDisk w p S Fp)
    (hbf : w.cell? ⟨Bf, 0, none⟩ = some (.slice a m c)) (hbm : w.cell? ⟨Bm, 0, none⟩ = some (.int .i64 n)) (hbd : w.cell? ⟨Bd, 0, none⟩ = some (.pointer (some ⟨p, 0, none⟩))) (hbn : w.cell? ⟨Bn, 0, none⟩ = some (.string s))
    (nf : ¬ Fp Bf) (nm : ¬ Fp Bm) (nd : ¬ Fp Bd) (nn : ¬ Fp Bn) (hb : Bytes w a m l) (hmc : m ≤ c) (hnil : a = none → m = 0 ∧ c = 0) (hnm : n ≤ m) (hbig : m ≤ 140737488355328) (hs : s.size ≤ maxLen) (hn : S.n < maxLen) :
    Calls Tryz.prog 119 #[.pointer (some ⟨Bf, 0, none⟩), .pointer (some ⟨Bm, 0, none⟩), .pointer (some ⟨Bd, 0, none⟩), .pointer (some ⟨Bn, 0, none⟩)] w fun e w' =>
      e = .returned (.tuple #[]) ∧ IsDisk w' p (S.set s.data.toList (l.take n)) (grow Fp w w') ∧ Turn Fp w w' := by
  have hlt := hd.lt
  obtain ⟨b, M, hd⟩ := hd
  obtain ⟨vo, hvo, _, hvb⟩ := hd.value s.data.toList
  have c0 := hd.c0
  have hll := hb.1
  have hln : (l.take n).length = n := by simp; omega
  have hbt := hb.take n hnm
  have hclone := clone_any a n c (l.take n) w.drew ⟨hbt.1, hbt.2⟩ (fun h => ⟨by have := (hnil h).1; omega, (hnil h).2⟩) (by omega)
  have hput : ∀ a' c' w3, w3.ownsRow w.drew.heap.size 5 1 (.slice a' n c') n (cellsOf (l.take n)) → Below w.drew.heap.size w.drew w3 →
      Hid (w3.cell? ⟨Bf, 0, none⟩ = some (.slice a m c) ∧ w3.cell? ⟨Bm, 0, none⟩ = some (.int .i64 n) ∧ w3.cell? ⟨Bd, 0, none⟩ = some (.pointer (some ⟨p, 0, none⟩)) ∧ w3.cell? ⟨Bn, 0, none⟩ = some (.string s) ∧ w3.cell? ⟨p, 0, none⟩ = some (.map (some b))) ∧
      ∃ w4, (Instr.mapUpdate 83 (.map (some b)) (.string s) (.slice a' n c')).run Tryz.prog w3 = .ok () w4 ∧
        Hid (w4.cell? ⟨Bf, 0, none⟩ = some (.slice a m c) ∧ w4.cell? ⟨Bm, 0, none⟩ = some (.int .i64 n) ∧ w4.cell? ⟨Bd, 0, none⟩ = some (.pointer (some ⟨p, 0, none⟩)) ∧ w4.cell? ⟨Bn, 0, none⟩ = some (.string s) ∧ w4.cell? ⟨p, 0, none⟩ = some (.map (some b))) ∧
        Hid (IsDisk w4 p (S.set s.data.toList (l.take n)) (grow Fp w w4) ∧ Turn Fp w w4) := by
    intro a' c' w3 ho hB3
    have hB3' : Below w.heap.size w w3 := ⟨hB3.os, hB3.tape, hB3.output, hB3.size, hB3.block⟩
    refine ⟨⟨?_, ?_, ?_, ?_, ?_⟩, ?_⟩
    · rw [hB3'.cell (World.block_lt_of_cell? w _ hbf)]; exact hbf
    · rw [hB3'.cell (World.block_lt_of_cell? w _ hbm)]; exact hbm
    · rw [hB3'.cell (World.block_lt_of_cell? w _ hbd)]; exact hbd
    · rw [hB3'.cell (World.block_lt_of_cell? w _ hbn)]; exact hbn
    · rw [hB3'.cell (World.block_lt_of_cell? w _ c0)]; exact c0
    · have ho' : w3.ownsRow 0 5 1 (.slice a' n c') (l.take n).length (cellsOf (l.take n)) := by rw [hln]; exact ownsRow_zero ho
      obtain ⟨w4, hr4, hd4, hT4⟩ := hd.put (w1 := w3) s hs vo (.slice a' n c') (l.take n) hvo hvb ⟨hB3.os, hB3.tape, hB3.output, hB3.size, fun k hk _ => hB3.block k hk⟩ ho' (hd.free_new _ _ (fun g hg => (ho.lt g hg).1)) hn
      exact ⟨w4, hr4, ⟨hT4.cell hbf nf, hT4.cell hbm nm, hT4.cell hbd nd, hT4.cell hbn nn, hd4.c0⟩, ⟨b, _, hd4⟩, hT4⟩
  have i0 : (0 : Int) ≤ (n : Int) := by omega
  have i1 : (n : Int) ≤ (c : Int) := by omega
  clear hd hvo hvb hb hbt
  go_enter Tryz.func119, Tryz.ntmps119
  go_wp2_with fail
  go_region_held3 (fun W => W.cell? ⟨Bf, 0, none⟩ = some (.slice a m c) ∧ W.cell? ⟨Bm, 0, none⟩ = some (.int .i64 n) ∧ W.cell? ⟨Bd, 0, none⟩ = some (.pointer (some ⟨p, 0, none⟩)) ∧ W.cell? ⟨Bn, 0, none⟩ = some (.string s) ∧ W.cell? ⟨p, 0, none⟩ = some (.map (some b)))
    (first
      | (go_split_ands
         refine ⟨by go_keep, by go_keep, by go_keep, by go_keep, by go_keep⟩)
      | (exact hc3.out)
      | (exact hc4.out))
    ((go_at_call 54; refine hclone.mono ?_; rintro e w3 ⟨a', c', rfl, ho3, hB3, hnc3, hnn3⟩; obtain ⟨hc3, w4, hupd, hc4, hfin⟩ := hput a' c' w3 ho3 hB3))
  go_wp2
  go_end0
  exact ⟨rfl, hfin.out⟩

end Go.Proofs.YtdjodigimhgklaaGreatDoor

/- Plain: what records the bytes of a file are; that records come back, and that a beginning of one is told as such. Nothing of the program is named here. -/
namespace Go.Proofs.YtdjodigimhgklaaGreatDoor
open Go.RowKit

/-- what bytes begin with: a beginning of a record, or what is wrong, or a record, and how many bytes it has -/
inductive P1 where
  | short
  | wrong
  | one (l : List UInt8) (k : Nat)

def pay1 (l : List UInt8) : List UInt8 := (l.take (txt l 262144).2.1).drop (txt l 262144).1
def rec1 (l : List UInt8) : P1 :=
  if (txt l 262144).2.2 = 110 then .short
  else if (txt l 262144).2.2 ≠ 0 then .wrong
  else if l.length - (txt l 262144).2.1 < 8 then .short
  else if wideVal ((l.drop (txt l 262144).2.1).take 8) 8 ≠ (hashN (pay1 l) : Int) then .wrong
  else .one (pay1 l) ((txt l 262144).2.1 + 8)

/-- the records of bytes, how many bytes they have, and whether what is left is wrong -/
def parse : Nat → List UInt8 → List (List UInt8) × Nat × Bool
  | 0, _ => ([], 0, false)
  | f + 1, l => if l = [] then ([], 0, false) else
    match rec1 l with
    | .short => ([], 0, false)
    | .wrong => ([], 0, true)
    | .one p k => (p :: (parse f (l.drop k)).1, k + (parse f (l.drop k)).2.1, (parse f (l.drop k)).2.2)

theorem num_lower (l : List UInt8) (h : (num l).2.2 = 0) : 1 ≤ (num l).2.1 := num_pos l h

theorem rec1_one {l p : List UInt8} {k : Nat} (h : rec1 l = .one p k) : p = pay1 l ∧ k = (txt l 262144).2.1 + 8 ∧ k ≤ l.length ∧ 9 + p.length ≤ k ∧ (txt l 262144).2.2 = 0 ∧ p.length ≤ 262144 := by
  unfold rec1 at h
  split at h
  · cases h
  · split at h
    · cases h
    · split at h
      · cases h
      · split at h
        · cases h
        · rename_i h1 h2 h3 h4
          cases h
          have h2' : (txt l 262144).2.2 = 0 := by simpa using h2
          obtain ⟨b1, b2⟩ := txt_bounds l 262144
          have hn : (num l).2.2 = 0 := by
            by_cases hn : (num l).2.2 = 0
            · exact hn
            · rw [txt_num l 262144 (by decide) hn] at h2'; exact absurd h2' hn
          have hl : ¬ (262144 : Int) < (num l).1 := fun hl => by rw [txt_long l 262144 (by decide) hn hl] at h2'; cases h2'
          have hs : ¬ ((l.length - (num l).2.1 : Nat) : Int) < (num l).1 := fun hs => by rw [txt_short l 262144 (by decide) hn hl hs] at h2'; cases h2'
          have ht := txt_ok l 262144 (by decide) hn hl hs
          have hp := num_pos l hn
          have hlen : (pay1 l).length = (txt l 262144).2.1 - (txt l 262144).1 := by
            unfold pay1; rw [List.length_drop, List.length_take]; omega
          have hge : 1 ≤ (txt l 262144).1 := by rw [ht]; exact hp
          have hf := (num_fits l).1
          have hd : (txt l 262144).2.1 = (txt l 262144).1 + (num l).1.toNat := by rw [ht]
          refine ⟨rfl, rfl, by omega, by omega, h2', by omega⟩

theorem parse_more : ∀ (f g : Nat) (l : List UInt8), l.length + 1 ≤ f → l.length + 1 ≤ g → parse f l = parse g l := by
  intro f
  induction f with
  | zero => intro g l h; omega
  | succ f ih =>
    intro g l hf hg
    obtain ⟨g, rfl⟩ : ∃ i, g = i + 1 := ⟨g - 1, by omega⟩
    rw [parse]
    conv => rhs; rw [parse]
    split
    · rfl
    · cases h : rec1 l with
      | short => rfl
      | wrong => rfl
      | one p k =>
        have h1 := rec1_one h
        have h2 := ih g (l.drop k) (by rw [List.length_drop]; omega) (by rw [List.length_drop]; omega)
        simp only [h2]

/-- the records of bytes -/
def parseL (l : List UInt8) : List (List UInt8) × Nat × Bool := parse (l.length + 1) l
theorem parseL_nil : parseL [] = ([], 0, false) := by simp [parseL, parse]
theorem parseL_short {l : List UInt8} (h : rec1 l = .short) : parseL l = ([], 0, false) := by
  unfold parseL; rw [parse, h]; split <;> rfl
theorem parseL_wrong {l : List UInt8} (h0 : l ≠ []) (h : rec1 l = .wrong) : parseL l = ([], 0, true) := by
  unfold parseL; rw [parse, h, if_neg h0]
theorem parseL_one {l p : List UInt8} {k : Nat} (h0 : l ≠ []) (h : rec1 l = .one p k) : parseL l = (p :: (parseL (l.drop k)).1, k + (parseL (l.drop k)).2.1, (parseL (l.drop k)).2.2) := by
  have h1 := rec1_one h
  unfold parseL
  rw [parse, h, if_neg h0]
  simp only
  rw [parse_more l.length ((l.drop k).length + 1) (l.drop k) (by rw [List.length_drop]; omega) (Nat.le_refl _)]

theorem parse_bounds : ∀ (f : Nat) (l : List UInt8), (parse f l).1.length * 9 + (parse f l).1.flatten.length ≤ (parse f l).2.1 ∧ (parse f l).2.1 ≤ l.length := by
  intro f
  induction f with
  | zero => intro l; simp [parse]
  | succ f ih =>
    intro l
    rw [parse]
    split
    · simp
    · cases h : rec1 l with
      | short => simp
      | wrong => simp
      | one p k =>
        have h1 := rec1_one h
        have h2 := ih (l.drop k)
        rw [List.length_drop] at h2
        simp only [List.length_cons, List.flatten_cons, List.length_append]
        omega
theorem parseL_bounds (l : List UInt8) : (parseL l).1.length * 9 + (parseL l).1.flatten.length ≤ (parseL l).2.1 ∧ (parseL l).2.1 ≤ l.length := parse_bounds _ _

/-! ### records come back -/
theorem txt_rec (l rest : List UInt8) (hl : l.length ≤ 262144) : txt (recB l ++ rest) 262144 = ((short l.length).length, (short l.length).length + l.length, 0) := by
  have hn : num (recB l ++ rest) = ((l.length : Int), (short l.length).length, 0) := by
    unfold recB; rw [List.append_assoc]; exact num_short_app l.length (by omega) _
  have hlen : (recB l ++ rest).length = (short l.length).length + l.length + 8 + rest.length := by rw [List.length_append, recB_len]
  rw [txt_ok _ 262144 (by decide) (by rw [hn]) (by rw [hn]; simp only; omega) (by rw [hn, hlen]; simp only; omega), hn]
  simp
theorem pay_rec (l rest : List UInt8) (hl : l.length ≤ 262144) : pay1 (recB l ++ rest) = l := by
  unfold pay1
  rw [txt_rec l rest hl]
  unfold recB
  have e : short l.length ++ (l ++ wide (hashN l)) ++ rest = (short l.length ++ l) ++ (wide (hashN l) ++ rest) := by simp
  rw [e, List.take_left' (by simp), List.drop_left' rfl]
theorem rec1_rec (l rest : List UInt8) (hl : l.length ≤ 262144) : rec1 (recB l ++ rest) = .one l (recB l).length := by
  have ht := txt_rec l rest hl
  have hp := pay_rec l rest hl
  have hw : wideVal (((recB l ++ rest).drop ((short l.length).length + l.length)).take 8) 8 = (hashN l : Int) := by
    have e : recB l ++ rest = (short l.length ++ l) ++ (wide (hashN l) ++ rest) := by unfold recB; simp
    rw [e, List.drop_left' (by simp), List.take_left' (wide_len _)]
    have := wideVal_wide (hashN l) [] 8 (by omega) (by have := hashN_lt l; omega)
    rw [List.append_nil] at this
    rw [this]; simp
  have hlen : (recB l ++ rest).length = (short l.length).length + l.length + 8 + rest.length := by rw [List.length_append, recB_len]
  unfold rec1
  rw [hp, ht]
  simp only
  rw [if_neg (by decide), if_neg (by simp), if_neg (by rw [hlen]; omega), if_neg (by rw [hw]; simp), recB_len]

theorem rec1_cut (l : List UInt8) (j : Nat) (hl : l.length ≤ 262144) (hj : j < (recB l).length) : rec1 ((recB l).take j) = .short := by
  have hrl := recB_len l
  by_cases h1 : j < (short l.length).length
  · have e : (recB l).take j = (short l.length).take j := by unfold recB; rw [List.take_append_of_le_length (by omega)]
    have hn : num ((recB l).take j) = (0, 0, 110) := by rw [e]; exact num_short_cut l.length j (by omega) h1
    unfold rec1
    rw [txt_num _ 262144 (by decide) (by rw [hn]; decide), hn]
    simp
  · have e : (recB l).take j = short l.length ++ ((l ++ wide (hashN l)).take (j - (short l.length).length)) := by
      unfold recB; rw [List.take_append, List.take_of_length_le (by omega)]
    have hn : num ((recB l).take j) = ((l.length : Int), (short l.length).length, 0) := by rw [e]; exact num_short_app l.length (by omega) _
    have hlen : ((recB l).take j).length = j := by rw [List.length_take]; omega
    by_cases h2 : j < (short l.length).length + l.length
    · unfold rec1
      rw [txt_short _ 262144 (by decide) (by rw [hn]) (by rw [hn]; simp only; omega) (by rw [hn, hlen]; simp only; omega)]
      simp
    · unfold rec1
      rw [txt_ok _ 262144 (by decide) (by rw [hn]) (by rw [hn]; simp only; omega) (by rw [hn, hlen]; simp only; omega), hn]
      simp only
      rw [if_neg (by decide), if_neg (by simp), if_pos (by rw [hlen]; omega)]

theorem recB_ne (l : List UInt8) : recB l ≠ [] := fun e => by have := (recB_pos l).1; rw [e] at this; simp at this

/-- the bytes of a row of records -/
def fileB (rs : List (List UInt8)) : List UInt8 := (rs.map recB).flatten
theorem fileB_snoc (rs : List (List UInt8)) (l : List UInt8) : fileB (rs ++ [l]) = fileB rs ++ recB l := by simp [fileB]
theorem fileB_nil : fileB [] = [] := rfl

theorem parseL_file : ∀ (rs : List (List UInt8)) (tail : List UInt8), (∀ r ∈ rs, r.length ≤ 262144) → parseL tail = ([], 0, false) → parseL (fileB rs ++ tail) = (rs, (fileB rs).length, false) := by
  intro rs
  induction rs with
  | nil => intro tail _ h; simpa [fileB] using h
  | cons r rs ih =>
    intro tail hr ht
    have e : fileB (r :: rs) ++ tail = recB r ++ (fileB rs ++ tail) := by simp [fileB]
    have hlr := hr r (by simp)
    have h1 := rec1_rec r (fileB rs ++ tail) hlr
    rw [e, parseL_one (by simp [recB_ne]) h1, List.drop_left' rfl, ih tail (fun r h => hr r (by simp [h])) ht]
    simp [fileB]
theorem parseL_whole (rs : List (List UInt8)) (hr : ∀ r ∈ rs, r.length ≤ 262144) : parseL (fileB rs) = (rs, (fileB rs).length, false) := by
  have := parseL_file rs [] hr parseL_nil
  rwa [List.append_nil] at this
theorem parseL_torn (rs : List (List UInt8)) (l : List UInt8) (j : Nat) (hr : ∀ r ∈ rs, r.length ≤ 262144) (hl : l.length ≤ 262144) (hj : j < (recB l).length) : parseL (fileB rs ++ (recB l).take j) = (rs, (fileB rs).length, false) :=
  parseL_file rs _ hr (parseL_short (rec1_cut l j hl hj))

end Go.Proofs.YtdjodigimhgklaaGreatDoor

/- What a list of payloads is in memory: one array in which they stand one behind the other, and a list of slices of it. -/
namespace Go.Proofs.YtdjodigimhgklaaGreatDoor
open Go.RowKit

/-- payload k; none where there is none -/
def rc (rs : List (List UInt8)) (k : Nat) : List UInt8 := rs.getD k []
/-- where payload k begins -/
def poffs (rs : List (List UInt8)) (k : Nat) : Nat := (rs.take k).flatten.length
theorem offs_zero (rs : List (List UInt8)) : poffs rs 0 = 0 := rfl
theorem rc_get (rs : List (List UInt8)) (k : Nat) (h : k < rs.length) : rs[k]? = some (rc rs k) := by
  simp [rc, List.getD, h]
theorem offs_succ (rs : List (List UInt8)) (k : Nat) (h : k < rs.length) : poffs rs (k + 1) = poffs rs k + (rc rs k).length := by
  unfold poffs rc
  rw [List.take_add_one, List.flatten_append, List.length_append, List.getD]
  rw [List.getElem?_eq_getElem h]
  simp
theorem offs_all (rs : List (List UInt8)) : poffs rs rs.length = rs.flatten.length := by unfold poffs; rw [List.take_length]
theorem offs_le (rs : List (List UInt8)) (k : Nat) (h : k < rs.length) : poffs rs k + (rc rs k).length ≤ rs.flatten.length := by
  rw [← offs_succ rs k h]
  unfold poffs
  conv => rhs; rw [← List.take_append_drop (k + 1) rs, List.flatten_append, List.length_append]
  omega
theorem offs_le' (rs : List (List UInt8)) (k : Nat) : poffs rs k ≤ rs.flatten.length := by
  unfold poffs
  conv => rhs; rw [← List.take_append_drop k rs, List.flatten_append, List.length_append]
  omega
/-- payload k stands in the row from its beginning on -/
theorem flat_sub (rs : List (List UInt8)) (k : Nat) (h : k < rs.length) : (rs.flatten.drop (poffs rs k)).take (rc rs k).length = rc rs k := by
  have e : rs.flatten = (rs.take k).flatten ++ (rc rs k ++ (rs.drop (k + 1)).flatten) := by
    have e0 : rs.drop k = rc rs k :: rs.drop (k + 1) := by rw [List.drop_eq_getElem_cons h]; simp [rc, List.getD, h]
    conv => lhs; rw [← List.take_append_drop k rs, List.flatten_append, e0, List.flatten_cons]
  rw [e]
  unfold poffs
  rw [List.drop_left, List.take_left]
theorem rc_snoc (rs : List (List UInt8)) (l : List UInt8) (k : Nat) (h : k < rs.length) : rc (rs ++ [l]) k = rc rs k := by
  simp [rc, List.getD, List.getElem?_append_left h]
theorem rc_last (rs : List (List UInt8)) (l : List UInt8) : rc (rs ++ [l]) rs.length = l := by simp [rc]
theorem offs_snoc (rs : List (List UInt8)) (l : List UInt8) (k : Nat) (h : k ≤ rs.length) : poffs (rs ++ [l]) k = poffs rs k := by
  unfold poffs; rw [List.take_append_of_le_length h]

/-- slice k of a list leads to payload k, within block g -/
def Elt (g : Nat) (rs : List (List UInt8)) (xs : List Value) (k : Nat) : Prop :=
  ∃ a c, xs[k]? = some (.slice a (rc rs k).length c) ∧ (rc rs k).length ≤ c ∧ (a = none → (rc rs k).length = 0 ∧ c = 0) ∧ (0 < (rc rs k).length → a = some ⟨g, poffs rs k, none⟩)

/-- the array of a list of payloads: nil, or all of block g -/
def arrV (g na : Nat) : Value := if na = 0 then .slice none 0 0 else .slice (some ⟨g, 0, none⟩) na na

/-- at place o of block p stands a list of payloads: its array A lies in block g and has na bytes, full; its list is v, with the cells xs -/
structure PayAt (w : World) (p o : Nat) (rs : List (List UInt8)) (g na : Nat) (full : List UInt8) (A v : Value) (xs : List Value) : Prop where
  ca : w.cell? ⟨p, o, none⟩ = some A
  cu : w.cell? ⟨p, o + 1, none⟩ = some (.int .i64 rs.flatten.length)
  cl : w.cell? ⟨p, o + 2, none⟩ = some v
  fa : w.frozen? ⟨p, o, none⟩ = false
  fu : w.frozen? ⟨p, o + 1, none⟩ = false
  fl : w.frozen? ⟨p, o + 2, none⟩ = false
  arr : w.ownsRow 0 5 1 A na (cellsOf full)
  sh : (A = .slice none 0 0 ∧ na = 0) ∨ A = .slice (some ⟨g, 0, none⟩) na na
  pre : full.take rs.flatten.length = rs.flatten
  fit : rs.flatten.length ≤ na
  row : w.ownsRow 0 33 1 v rs.length xs
  el : ∀ k, k < rs.length → Elt g rs xs k
  gp : A.ownBlock = some g → g ≠ p
  vp : v.ownBlock ≠ some p
  gv : A.ownBlock = some g → v.ownBlock ≠ some g

/-- a list of payloads, whose blocks are among those of Fp -/
def IsPay (w : World) (p o : Nat) (rs : List (List UInt8)) (Fp : Nat → Prop) : Prop :=
  ∃ g na full A v xs, PayAt w p o rs g na full A v xs ∧ (∀ k, A.ownBlock = some k → Fp k) ∧ (∀ k, v.ownBlock = some k → Fp k)

/-- the block of a list of payloads is as it was but for its three cells -/
def Rest (p o : Nat) (w w' : World) : Prop := (∀ i, i ≠ o → i ≠ o + 1 → i ≠ o + 2 → w'.cell? ⟨p, i, none⟩ = w.cell? ⟨p, i, none⟩) ∧ (∀ i, w'.frozen? ⟨p, i, none⟩ = w.frozen? ⟨p, i, none⟩)
theorem Rest.trans {p o : Nat} {a b c : World} (h : Rest p o a b) (k : Rest p o b c) : Rest p o a c :=
  ⟨fun i h1 h2 h3 => (k.1 i h1 h2 h3).trans (h.1 i h1 h2 h3), fun i => (k.2 i).trans (h.2 i)⟩
theorem Rest.of_block {p o : Nat} {a b : World} (h : b.heap[p]? = a.heap[p]?) : Rest p o a b :=
  ⟨fun _ _ _ _ => World.cell?_of_block h, fun _ => World.frozen?_of_block h⟩
theorem Rest.setCell {p o : Nat} (w : World) (i : Nat) (v : Value) (hi : i = o ∨ i = o + 1 ∨ i = o + 2) : Rest p o w (w.setCell ⟨p, i, none⟩ v) :=
  ⟨fun k h1 h2 h3 => World.cell?_setCell_other _ _ _ _ (fun e => by cases e; omega), fun k => World.frozen?_setCell _ _ _ _⟩

theorem ownsRow_move' {w w' : World} {e : TypeId} {B n : Nat} {v : Value} {xs : List Value} (h : w.ownsRow B e 1 v n xs) (hb : ∀ g, v.ownBlock = some g → w'.heap[g]? = w.heap[g]?) : w'.ownsRow B e 1 v n xs := by
  refine ⟨h.1, ?_⟩
  rcases h.2 with h0 | ⟨g, cap, cur, rfl, h1, h2, h3⟩
  · exact .inl h0
  · exact .inr ⟨g, cap, cur, rfl, h1, by rw [hb g rfl]; exact h2, h3⟩

theorem PayAt.kept {w w' : World} {p o g na : Nat} {rs : List (List UInt8)} {full : List UInt8} {A v : Value} {xs : List Value} (h : PayAt w p o rs g na full A v xs)
    (hp : w'.heap[p]? = w.heap[p]?) (hA : ∀ k, A.ownBlock = some k → w'.heap[k]? = w.heap[k]?) (hv : ∀ k, v.ownBlock = some k → w'.heap[k]? = w.heap[k]?) : PayAt w' p o rs g na full A v xs :=
  { h with
    ca := by rw [World.cell?_of_block hp]; exact h.ca
    cu := by rw [World.cell?_of_block hp]; exact h.cu
    cl := by rw [World.cell?_of_block hp]; exact h.cl
    fa := by rw [World.frozen?_of_block hp]; exact h.fa
    fu := by rw [World.frozen?_of_block hp]; exact h.fu
    fl := by rw [World.frozen?_of_block hp]; exact h.fl
    arr := ownsRow_move' h.arr hA
    row := ownsRow_move' h.row hv }

theorem PayAt.alt {w : World} {p o g na : Nat} {rs : List (List UInt8)} {full : List UInt8} {A v : Value} {xs : List Value} (h : PayAt w p o rs g na full A v xs) : full.length = na := by
  have := h.arr.1
  rw [cellsOf_length] at this
  omega

/-- the bytes of payload k -/
theorem PayAt.bytes {w : World} {p o g na : Nat} {rs : List (List UInt8)} {full : List UInt8} {A v : Value} {xs : List Value} (h : PayAt w p o rs g na full A v xs) (k : Nat) (hk : k < rs.length) :
    ∃ a c, xs[k]? = some (.slice a (rc rs k).length c) ∧ (rc rs k).length ≤ c ∧ (a = none → (rc rs k).length = 0 ∧ c = 0) ∧ Bytes w a (rc rs k).length (rc rs k) := by
  obtain ⟨a, c, h1, h2, h3, h4⟩ := h.el k hk
  refine ⟨a, c, h1, h2, h3, rfl, fun h0 => ⟨g, poffs rs k, h4 h0, fun i hi => ?_⟩⟩
  have hle := offs_le rs k hk
  have hfit := h.fit
  have hal := h.alt
  rcases h.sh with ⟨_, rfl⟩ | hA
  · omega
  · have harr := h.arr
    rw [hA] at harr
    have hcell := (ownsRow_toBytes harr).1.2 (by omega)
    obtain ⟨b, off, e, hc⟩ := hcell
    cases e
    have := hc (poffs rs k + i) (by omega)
    rw [Nat.zero_add] at this
    rw [this]
    congr 2
    have e1 : bt (rc rs k) i = bt rs.flatten (poffs rs k + i) := by
      conv => lhs; rw [← flat_sub rs k hk]
      rw [bt_take _ _ _ hi, bt_drop]
    have e2 : bt rs.flatten (poffs rs k + i) = bt full (poffs rs k + i) := by
      conv => lhs; rw [← h.pre]
      rw [bt_take _ _ _ (by omega)]
    rw [e1, e2]

/-- the cell of slice k -/
theorem PayAt.cell {w : World} {p o g na : Nat} {rs : List (List UInt8)} {full : List UInt8} {A v : Value} {xs : List Value} (h : PayAt w p o rs g na full A v xs) :
    (v = .slice none 0 0 ∧ rs = []) ∨ ∃ b cap, v = .slice (some ⟨b, 0, none⟩) rs.length cap ∧ rs.length ≤ cap ∧ cap ≤ maxLen ∧ ∀ k x, xs[k]? = some x → w.cell? ⟨b, k, none⟩ = some x := by
  rcases h.row.2 with ⟨h0, h1⟩ | ⟨b, cap, cur, hv, _, _, h3, h4, _⟩
  · exact .inl ⟨h0, List.eq_nil_of_length_eq_zero h1⟩
  · refine .inr ⟨b, cap, hv, h3, h4, fun k x hx => ?_⟩
    have := h.row.cells (g := b) (by rw [hv]; rfl) k x hx
    rw [Addr.add_lit, Nat.zero_add] at this
    exact this

end Go.Proofs.YtdjodigimhgklaaGreatDoor
