import Derived.Test.YtdjodigimhgklaaGreatDoorMC13
import Derived.Maps.RangeWalk
import Derived.Sort.KeysCollected
/- The walks of Cut, Mend, Copy, and of the comparison of bytes. -/
namespace Go.Proofs.YtdjodigimhgklaaGreatDoor
open Go.RowKit Go.Maps

theorem turn_fields {w : World} {p : Nat} {S : DG} {Fp : Nat → Prop} (hd : IsDisk w p S Fp) (v u : Value) : Turn Fp w ((w.setCell ⟨p, 2, none⟩ v).setCell ⟨p, 3, none⟩ u) :=
  ((turn_setCell w p 2 v).trans (turn_setCell _ p 3 u) (fun _ _ h => h)).wide (fun k hk => by subst hk; exact hd.fp)

theorem DiskAt.setCut {w : World} {p b : Nat} {M : DataW Value} {S : DG} {Fp : Nat → Prop} (h : DiskAt w p b M S Fp) (c : Bool) (n : Nat) (hn : n ≤ 9223372036854775807) :
    DiskAt ((w.setCell ⟨p, 2, none⟩ (.bool c)).setCell ⟨p, 3, none⟩ (.int .i64 n)) p b M { S with cut := c, left := n } Fp := by
  have h1 := h.field 2 (.bool c) (by decide) { S with cut := c } rfl rfl h.hl (by rw [World.cell?_setCell_other _ _ _ _ (by simp)]; exact h.c1) (World.cell?_setCell_same _ _ _ h.c2) (by rw [World.cell?_setCell_other _ _ _ _ (by simp)]; exact h.c3)
  exact h1.field 3 (.int .i64 n) (by decide) { S with cut := c, left := n } rfl rfl hn (by rw [World.cell?_setCell_other _ _ _ _ (by simp)]; exact h1.c1) (by rw [World.cell?_setCell_other _ _ _ _ (by simp)]; exact h1.c2) (World.cell?_setCell_same _ _ _ h1.c3)

set_option maxHeartbeats 1000000 in
theorem cut_any (p : Nat) (S : DG) (Fp : Nat → Prop) (w : World) (n : Nat) (hd : IsDisk w p S Fp) (hn : n ≤ 9223372036854775807) :
    Calls Tryz.prog 32 #[.pointer (some ⟨p, 0, none⟩), .int .i64 n] w fun e w' => e = .returned (.int .i64 0) ∧ IsDisk w' p { S with cut := true, left := n } Fp ∧ Turn Fp w w' := by
  have hT := turn_fields hd (.bool true) (.int .i64 n)
  obtain ⟨b, M, hd⟩ := hd
  have h2 := hd.setCut true n hn
  have c2 := hd.c2
  have c3 := hd.c3
  have f2 := hd.f2
  have f3 := hd.f3
  have i0 : ¬ (n : Int) < 0 := by omega
  clear hd
  go_enter Tryz.func32, Tryz.ntmps32
  go_wp2
  go_ret
  exact ⟨rfl, ⟨b, M, h2⟩, hT⟩

theorem cut_no (p : Nat) (w : World) (n : Int) (hn : n < 0) :
    Calls Tryz.prog 32 #[.pointer (some ⟨p, 0, none⟩), .int .i64 n] w fun e w' => e = .returned (.int .i64 2) ∧ w' = w := by
  go_enter Tryz.func32, Tryz.ntmps32
  go_wp2
  go_ret
  exact ⟨rfl, rfl⟩

set_option maxHeartbeats 1000000 in
theorem mend_any (p : Nat) (S : DG) (Fp : Nat → Prop) (w : World) (hd : IsDisk w p S Fp) :
    Calls Tryz.prog 34 #[.pointer (some ⟨p, 0, none⟩)] w fun e w' => e = .returned (.int .i64 0) ∧ IsDisk w' p { S with cut := false, left := 0 } Fp ∧ Turn Fp w w' := by
  have hT := turn_fields hd (.bool false) (.int .i64 0)
  obtain ⟨b, M, hd⟩ := hd
  have h2 := hd.setCut false 0 (by omega)
  have c2 := hd.c2
  have c3 := hd.c3
  have f2 := hd.f2
  have f3 := hd.f3
  clear hd
  go_enter Tryz.func34, Tryz.ntmps34
  go_wp2
  go_ret
  exact ⟨rfl, ⟨b, M, h2⟩, hT⟩

/-- the names of a map's files, each once -/
theorem strKeys_nodup {w : World} {b n : Nat} {M : DataW Value} (h : w.ownsMap Tryz.prog 9 rv b n M) : (strKeys M).Nodup ∧ ∀ x, x ∈ strKeys M ↔ has M (.string x) = true := by
  obtain ⟨es, hD, hpw, _⟩ := h.entries keyed
  obtain ⟨es', hD', hko⟩ := h.keysOf
  obtain rfl : es = es' := by rw [hD] at hD'; simpa using hD'
  subst hD
  have hk : ∀ q ∈ es, ∃ x, q.1 = .string x := fun q hq => by
    obtain ⟨v, hv⟩ := hko q hq
    obtain ⟨x, _, hx, _⟩ := Maps.keyOf_str Tryz.underlying9 hv
    exact ⟨x, hx⟩
  constructor
  · show (es.map fun q => strOf q.1).Nodup
    refine List.pairwise_map.2 (hpw.imp_of_mem fun {q r} hq hr hne e => hne ?_)
    obtain ⟨x, hx⟩ := hk q hq
    obtain ⟨y, hy⟩ := hk r hr
    rw [hx, hy] at e ⊢
    exact congrArg _ e
  · intro x
    rw [has_eq, List.any_eq_true]
    show x ∈ es.map (fun q => strOf q.1) ↔ _
    rw [List.mem_map]
    constructor
    · rintro ⟨q, hq, rfl⟩
      obtain ⟨y, hy⟩ := hk q hq
      exact ⟨q, hq, by rw [hy]; simp [Lit.sameKey, strOf]⟩
    · rintro ⟨q, hq, hs⟩
      obtain ⟨y, hy⟩ := hk q hq
      rw [hy] at hs
      exact ⟨q, hq, by rw [hy]; simpa [Lit.sameKey, strOf] using hs⟩
theorem strKeys_length {w : World} {b n : Nat} {M : DataW Value} (h : w.ownsMap Tryz.prog 9 rv b n M) : (strKeys M).length = size M := by
  obtain ⟨es, rfl⟩ := h.isMap
  simp [strKeys, size]
/-- two maps of files with the same names -/
theorem strKeys_same {w w' : World} {b b' n n' : Nat} {M M' : DataW Value} (h : w.ownsMap Tryz.prog 9 rv b n M) (h' : w'.ownsMap Tryz.prog 9 rv b' n' M') (hs : ∀ x, has M (.string x) = has M' (.string x)) : (strKeys M).Perm (strKeys M') := by
  obtain ⟨n1, m1⟩ := strKeys_nodup h
  obtain ⟨n2, m2⟩ := strKeys_nodup h'
  exact (List.perm_ext_iff_of_nodup n1 n2).2 fun x => by rw [m1, m2, hs]

theorem ranges_move {w w' : World} {b r n cnt : Nat} {M : DataW Value} {left : Lit → Bool} (h : w.ranges Tryz.prog 9 rv b r n M left cnt) (hb : w'.heap[b]? = w.heap[b]?) (hr : w'.heap[r]? = w.heap[r]?) : w'.ranges Tryz.prog 9 rv b r n M left cnt := by
  obtain ⟨es, clock, since, seen, c0, h1, F, h2, h3, h4, rest⟩ := h
  exact ⟨es, clock, since, seen, c0, hb.trans h1, F, h2, h3, hr.trans h4, rest⟩

theorem ownsRow_zero {w : World} {B n : Nat} {v : Value} {xs : List Value} (h : w.ownsRow B 5 1 v n xs) : w.ownsRow 0 5 1 v n xs := by
  refine ⟨h.1, ?_⟩
  rcases h.2 with h0 | ⟨g, cap, cur, rfl, _, h2⟩
  · exact .inl h0
  · exact .inr ⟨g, cap, cur, rfl, Nat.zero_le _, h2⟩

/-- a copy of a disk's files -/
def DG.copy (S : DG) : DG := ⟨S.f, S.n, 0, false, 0⟩

end Go.Proofs.YtdjodigimhgklaaGreatDoor

/- Bytes turned into a string; the walk of the comparison of bytes; append under a guard; what pieces leave, in closed form. -/
namespace Go.Proofs.YtdjodigimhgklaaGreatDoor
open Go.RowKit Go.Maps



set_option maxHeartbeats 1000000 in
theorem equal_any (w : World) (a b : Option Addr) (n m c d : Nat) (l k : List UInt8) (ha : Bytes w a n l) (hb : Bytes w b m k) :
    Calls Tryz.prog 25 #[.slice a n c, .slice b m d] w fun e w' => e = .returned (.bool (decide (l = k))) ∧ w' = w := by
  have r1 := run_string w a n c l ha
  have r2 := run_string w b m d k hb
  go_enter Tryz.func25, Tryz.ntmps25
  go_wp2
  go_ret
  refine ⟨?_, rfl⟩
  simp
  rw [Bool.eq_iff_iff]
  simp

theorem wpList_append_row_g (w : World) {ops : Array Oper} {rest : List Oper} {o : Oper} {a : Act} {Q : Exit → Act → World → Prop} (hgd : Region.wanted o (yielded ops a.tmps) = true) (s x : Operand)
    (ho : o.op = .call { callee := .builtin .append, args := #[s, x], argTypes := #[33, 33] })
    (v : Value) (n : Nat) (xs : List Value) (hs : a.eval s = v) (hown : w.ownsRow 0 5 1 v n xs) (ad : Option Addr) (m c : Nat) (l : List UInt8) (hx : a.eval x = .slice ad m c) (hb : Bytes w ad m l) (hnil : ad = none → m = 0 ∧ c = 0) (hm : n + m ≤ 140737488355328)
    (h : ∀ v' w', w'.ownsRow 0 5 1 v' (n + m) (xs ++ cellsOf l) → w.grownBy w' v.ownBlock → (v'.ownBlock = v.ownBlock ∨ v'.ownBlock = some w.heap.size) → wpList Tryz.prog ops Q rest (a.put o.dst v') w') : wpList Tryz.prog ops Q (o :: rest) a w := by
  unfold wpList
  rw [if_pos hgd]
  exact .inl (wp_append_row w s x ho v n xs hs hown ad m c l hx hb hnil hm h)

/-! ### what pieces leave -/
theorem add_add (S : DG) (nm l k : List UInt8) : (S.add nm l).add nm k = S.add nm (l ++ k) := by
  unfold DG.add DG.set
  simp only [if_true, Option.getD_some, Option.isSome_some, List.append_assoc]
  congr 1
  funext x
  split <;> rfl
theorem done_add (S : DG) (nm l : List UInt8) : (S.add nm l).done = S.done.add nm l := rfl
theorem add_wr (S : DG) (nm l : List UInt8) (n : Nat) : { S.add nm l with wr := n } = { S with wr := n }.add nm l := rfl

theorem pieces_free : ∀ (k : Nat) (S : DG) (nm l : List UInt8), S.cut = false → l.length + 1 ≤ k → pieces k S nm l = ({ S with wr := S.wr + (if l = [] then 1 else (l.length + 31) / 32) }.add nm l, 0) := by
  intro k
  induction k with
  | zero => intro S nm l _ h; omega
  | succ k ih =>
    intro S nm l hc h
    rw [pieces, if_pos (by simp [DG.can, hc])]
    split
    · rename_i h32
      have e : (if l = [] then 1 else (l.length + 31) / 32) = 1 := by
        split
        · rfl
        · rename_i h0
          have : l.length ≠ 0 := fun h' => h0 (List.eq_nil_of_length_eq_zero h')
          omega
      rw [e]
      simp [DG.done, hc]
    · rename_i h32
      rw [ih _ nm (l.drop 32) (by simp [DG.add, DG.set, DG.done, hc]) (by simp; omega)]
      have hne : l.drop 32 ≠ [] := fun h' => by have := congrArg List.length h'; simp at this; omega
      have hl0 : l ≠ [] := fun h' => by rw [h'] at h32; simp at h32
      rw [if_neg hne, if_neg hl0, add_wr]
      congr 1
      have e1 : (S.done.add nm (l.take 32)).wr + ((l.drop 32).length + 31) / 32 = S.wr + (l.length + 31) / 32 := by
        simp [DG.add, DG.set, DG.done]; omega
      rw [e1]
      have e2 : { S.done with wr := S.wr + (l.length + 31) / 32 } = { S with wr := S.wr + (l.length + 31) / 32 } := by simp [DG.done, hc]
      rw [e2, add_add, List.take_append_drop]

theorem pieces_cut : ∀ (k : Nat) (S : DG) (nm l : List UInt8), S.cut = true → l.length + 1 ≤ k → S.left * 32 < l.length → (pieces k S nm l).2 = 6 ∧ (pieces k S nm l).1.bs nm = S.bs nm ++ l.take (S.left * 32) ∧ (S.left = 0 → (pieces k S nm l).1 = S) := by
  intro k
  induction k with
  | zero => intro S nm l _ h; omega
  | succ k ih =>
    intro S nm l hc h hlt
    by_cases h0 : S.left = 0
    · rw [pieces, if_neg (by simp [DG.can, hc, h0])]
      simp [h0]
    · rw [pieces, if_pos (by simp [DG.can, hc, h0]), if_neg (by omega)]
      obtain ⟨h1, h2, _⟩ := ih (S.done.add nm (l.take 32)) nm (l.drop 32) (by simp [DG.add, DG.set, DG.done, hc]) (by simp; omega) (by simp [DG.add, DG.set, DG.done, hc]; omega)
      refine ⟨h1, ?_, fun h' => absurd h' h0⟩
      rw [h2]
      have e : (S.done.add nm (l.take 32)).left = S.left - 1 := by simp [DG.add, DG.set, DG.done, hc]
      have e1 : (S.done.add nm (l.take 32)).bs nm = S.bs nm ++ l.take 32 := by simp [DG.add, DG.set, DG.done, DG.bs]
      rw [e, e1, List.append_assoc]
      congr 1
      have : S.left * 32 = 32 + (S.left - 1) * 32 := by omega
      rw [this, List.take_add]

end Go.Proofs.YtdjodigimhgklaaGreatDoor

/- The walks of Truncate, Rename and Remove. -/
namespace Go.Proofs.YtdjodigimhgklaaGreatDoor
open Go.RowKit Go.Maps

/-- a file is gone -/
def DG.rem (S : DG) (l : List UInt8) : DG := { S with f := fun x => if x = l then none else S.f x, n := if (S.f l).isSome then S.n - 1 else S.n }

theorem wp_delete_run (w : World) {o : Oper} {a : Act} {K : Act → World → Prop} {Q : Exit → Act → World → Prop} (s x : Operand)
    (ho : o.op = .call { callee := .builtin .delete, args := #[s, x], argTypes := #[83, 9] })
    (m k : Value) (hs : a.eval s = m) (hx : a.eval x = k) (w' : World) (hr : (Builtin.delete_ #[83, 9] o.type #[m, k]).run Tryz.prog w = .ok (.tuple #[]) w')
    (h : K (a.put o.dst (.tuple #[])) w') : o.wp Tryz.prog a w K Q := by
  unfold Oper.wp execOp
  simp only [ho, resolve, invoke, builtin, Sem.run_bind, Sem.run_pure, Result.andThen_ok, List.map_toArray, List.map_cons, List.map_nil, hs, hx, hr]
  exact h

theorem step_delete_run (w : World) {ops : Array Oper} {o : Oper} {a : Act} {K : Act → World → Prop} {Q : Exit → Act → World → Prop} {E : Prop} (hgd : o.guard = none) (s x : Operand)
    (ho : o.op = .call { callee := .builtin .delete, args := #[s, x], argTypes := #[83, 9] })
    (m k : Value) (hs : a.eval s = m) (hx : a.eval x = k) (w' : World) (hr : (Builtin.delete_ #[83, 9] o.type #[m, k]).run Tryz.prog w = .ok (.tuple #[]) w')
    (h : K (a.put o.dst (.tuple #[])) w') :
    if Region.wanted o (yielded ops a.tmps) = true then Oper.wp Tryz.prog o a w K Q else E := by
  have hw : Region.wanted o (yielded ops a.tmps) = true := by simp [Region.wanted, hgd]
  rw [if_pos hw]
  exact wp_delete_run w s x ho m k hs hx w' hr h

theorem DiskAt.drop {w : World} {p b : Nat} {M : DataW Value} {S : DG} {Fp : Nat → Prop} (h : DiskAt w p b M S Fp) (s : ByteArray) (hs : s.size ≤ maxLen) (ty : TypeId) :
    ∃ w2, (Builtin.delete_ #[83, 9] ty #[.map (some b), .string s]).run Tryz.prog w = .ok (.tuple #[]) w2 ∧ DiskAt w2 p b (M.del (.string s.data.toList)) (S.rem s.data.toList) Fp ∧ Turn Fp w w2 := by
  obtain ⟨w2, hrun, own2, ht⟩ := h.own.drop keyed Tryz.underlying83 (keyOfS s hs) ty
  have hg := ht.grown
  have hblk : ∀ k, k < w.heap.size → k ≠ b → w2.heap[k]? = w.heap[k]? := fun k hk hb => hg.block k hk (by simpa using hb)
  have hp2 := hblk p (h.lt p h.fp) h.pb
  have htidy := h.own.tidy keyed
  refine ⟨w2, hrun, ?_, Turn.of_grownBy hg (fun k hk => by cases hk; exact .inl h.fb)⟩
  refine { c0 := ?_, c1 := ?_, c2 := ?_, c3 := ?_, f1 := ?_, f2 := ?_, f3 := ?_, hl := h.hl, pb := h.pb, own := ownsMap_tight own2, sz := ?_, has := ?_, row := ?_, apart := ?_, fp := h.fp, fb := h.fb, lt := fun k hk => Nat.lt_of_lt_of_le (h.lt k hk) hg.size }
  · rw [World.cell?_of_block hp2]; exact h.c0
  · rw [World.cell?_of_block hp2]; exact h.c1
  · rw [World.cell?_of_block hp2]; exact h.c2
  · rw [World.cell?_of_block hp2]; exact h.c3
  · rw [World.frozen?_of_block hp2]; exact h.f1
  · rw [World.frozen?_of_block hp2]; exact h.f2
  · rw [World.frozen?_of_block hp2]; exact h.f3
  · have := size_del (k := .string s.data.toList) htidy
    rw [h.has, h.sz] at this
    simp only [DG.rem]
    split at this
    · rename_i h1; rw [if_pos h1]; omega
    · rename_i h1; rw [if_neg h1]; omega
  · intro l
    by_cases e : l = s.data.toList
    · subst e
      rw [has_del_same]
      simp [DG.rem]
    · rw [has_del_other (key_ne e), h.has]
      simp [DG.rem, e]
  · intro l bs' hf
    by_cases e : l = s.data.toList
    · simp [DG.rem, e] at hf
    · simp only [DG.rem, if_neg e] at hf
      obtain ⟨u, h1, h2, h3⟩ := h.row l bs' hf
      exact ⟨u, by rw [atKey_del_other (key_ne e)]; exact h1, ownsRow_move h2 (fun g hg' => hblk g (h.lt g (h3 g hg').1) (h3 g hg').2.2), h3⟩
  · intro l l' u u' g hl hl' hu hu' hg1 hg2'
    by_cases e : l = s.data.toList
    · simp [DG.rem, e] at hl
    · by_cases e' : l' = s.data.toList
      · simp [DG.rem, e'] at hl'
      · rw [atKey_del_other (key_ne e)] at hu
        rw [atKey_del_other (key_ne e')] at hu'
        simp only [DG.rem, if_neg e] at hl
        simp only [DG.rem, if_neg e'] at hl'
        exact h.apart l l' u u' g hl hl' hu hu' hg1 hg2'

theorem raw_any (k p : Nat) (caps : Array Value) (S S2 : DG) (Fp : Nat → Prop) (w : World) (hk : ∀ w, (callFunc k caps).run Tryz.prog w = .ok (.enter k caps) w) (hd : IsDisk w p S Fp) (hw : S.wr < 4611686018427387904)
    (hcl : ∀ w1, (∀ b M, DiskAt w p b M S Fp → DiskAt w1 p b M S.done Fp) → IsDisk w1 p S.done Fp → Turn (fun i => i = p) w w1 → w1.heap.size = w.heap.size → Calls Tryz.prog k caps w1 fun e w' => e = .returned (.tuple #[]) ∧ IsDisk w' p S2 (grow Fp w1 w') ∧ Turn Fp w1 w') :
    Calls Tryz.prog 95 #[.pointer (some ⟨p, 0, none⟩), .func (.func k) #[] caps] w fun e w' => e = .returned (.int .i64 (if S.can = true then 0 else 6)) ∧ IsDisk w' p (if S.can = true then S2 else S) (grow Fp w w') ∧ Turn Fp w w' := by
  have hlt := hd.lt
  have hp := hd.fp
  by_cases hc : S.can = true
  · simp only [hc, if_true]
    refine (raw_done k p _ S Fp _ (fun w' => IsDisk w' p S2 (grow Fp w w') ∧ Turn Fp w w') hk hd hw hc ?_).mono fun e w' ⟨he, hR⟩ => ⟨he, hR⟩
    intro w1 hkp hd1 hT1 hs1
    refine (hcl w1 hkp hd1 hT1 hs1).mono fun e w' ⟨he, hd', hT'⟩ => ⟨he, ?_⟩
    have hT2 : Turn Fp w w' := (hT1.wide (fun i h => by subst h; exact hp)).trans hT' (fun _ _ h => h)
    exact ⟨grow_lt hd' hlt (fun k hk => hk.elim .inl (fun h => .inr (by omega))) hT2.size, hT2⟩
  · simp only [hc, if_false, Bool.false_eq_true]
    refine (raw_cut k p _ S Fp _ hd (by simpa using hc)).mono fun e w' ⟨he, hw'⟩ => ⟨he, ?_⟩
    subst hw'
    exact ⟨grow_lt hd hlt (fun k hk => .inl hk) (Nat.le_refl _), Turn.refl _ _⟩

set_option maxRecDepth 20000 in
set_option maxHeartbeats 2000000 in
theorem remove1_any (p : Nat) (S : DG) (Fp : Nat → Prop) (w : World) (s : ByteArray) (Bd Bn : Nat) (hd : IsDisk w p S Fp)
    (hbd : w.cell? ⟨Bd, 0, none⟩ = some (.pointer (some ⟨p, 0, none⟩))) (hbn : w.cell? ⟨Bn, 0, none⟩ = some (.string s)) (nd : ¬ Fp Bd) (nn : ¬ Fp Bn) (hs : s.size ≤ maxLen) :
    Calls Tryz.prog 128 #[.pointer (some ⟨Bd, 0, none⟩), .pointer (some ⟨Bn, 0, none⟩)] w fun e w' =>
      e = .returned (.tuple #[]) ∧ IsDisk w' p (S.rem s.data.toList) (grow Fp w w') ∧ Turn Fp w w' := by
  have hlt := hd.lt
  obtain ⟨b, M, hd⟩ := hd
  have c0 := hd.c0
  have hdD : DiskAt w.drew p b M S Fp := hd.kept (Nat.le_refl _) (fun _ _ => rfl)
  obtain ⟨w2, hrun, hd2, hT2⟩ := hdD.drop s hs 0
  have hT2' : Turn Fp w w2 := ⟨hT2.os, hT2.tape, hT2.output, hT2.size, hT2.block⟩
  have hc2 := hd2.c0
  have k1 := hT2'.cell hbd nd
  have k2 := hT2'.cell hbn nn
  have hR : Hid (IsDisk w2 p (S.rem s.data.toList) (grow Fp w w2) ∧ Turn Fp w w2) := ⟨grow_lt ⟨b, _, hd2⟩ hlt (fun k hk => .inl hk) hT2'.size, hT2'⟩
  clear hd2 hT2 hdD hd hT2'
  go_enter Tryz.func128, Tryz.ntmps128
  go_wp2_with fail
  go_region_held3 (fun W => W.cell? ⟨Bd, 0, none⟩ = some (.pointer (some ⟨p, 0, none⟩)) ∧ W.cell? ⟨Bn, 0, none⟩ = some (.string s) ∧ W.cell? ⟨p, 0, none⟩ = some (.map (some b)))
    (first
      | (go_split_ands
         refine ⟨by go_keep, by go_keep, by go_keep⟩)
      | (exact ⟨k1, k2, hc2⟩))
    ((refine step_delete_run _ (by rfl) _ _ (by rfl) (.map (some b)) (.string s) (by rfl) (by rfl) w2 hrun ?_))
  go_wp2
  go_end0
  exact ⟨rfl, hR.out⟩

set_option maxRecDepth 20000 in
set_option maxHeartbeats 2000000 in
theorem truncate1_any (p : Nat) (S : DG) (Fp : Nat → Prop) (w : World) (s : ByteArray) (Bf Bm Bd Bn : Nat) (a : Option Addr) (m c n : Nat) (l : List UInt8) (hd : IsDisk w p S Fp)
    (hbf : w.cell? ⟨Bf, 0, none⟩ = some (.slice a m c)) (hbm : w.cell? ⟨Bm, 0, none⟩ = some (.int .i64 n)) (hbd : w.cell? ⟨Bd, 0, none⟩ = some (.pointer (some ⟨p, 0, none⟩))) (hbn : w.cell? ⟨Bn, 0, none⟩ = some (.string s))
    (nf : ¬ Fp Bf) (nm : ¬ Fp Bm) (nd : ¬ Fp Bd) (nn : ¬ Fp Bn) (hb : Bytes w a m l) (hmc : m ≤ c) (hnil : a = none → m = 0 ∧ c = 0) (hnm : n ≤ m) (hbig : m ≤ 140737488355328) (hs : s.size ≤ maxLen) (hn : S.n < maxLen) :
    Calls Tryz.prog 119 #[.pointer (some ⟨Bf, 0, none⟩), .pointer (some ⟨Bm, 0, none⟩), .pointer (some ⟨Bd, 0, none⟩), .pointer (some ⟨Bn, 0, none⟩)] w fun e w' =>
      e = .returned (.tuple #[]) ∧ IsDisk w' p (S.set s.data.toList (l.take n)) (grow Fp w w') ∧ Turn Fp w w' := by
  have hlt := hd.lt
  obtain ⟨b, M, hd⟩ := hd
  obtain ⟨vo, hvo, _, hvb⟩ := hd.value s.data.toList
  have c0 := hd.c0
  have hll := hb.1
  have hln : (l.take n).length = n := by simp; omega
  have hbt := hb.take n hnm
  have hclone := clone_any a n c (l.take n) w.drew ⟨hbt.1, hbt.2⟩ (fun h => ⟨by have := (hnil h).1; omega, (hnil h).2⟩) (by omega)
  have hput : ∀ a' c' w3, w3.ownsRow w.drew.heap.size 5 1 (.slice a' n c') n (cellsOf (l.take n)) → Below w.drew.heap.size w.drew w3 →
      Hid (w3.cell? ⟨Bf, 0, none⟩ = some (.slice a m c) ∧ w3.cell? ⟨Bm, 0, none⟩ = some (.int .i64 n) ∧ w3.cell? ⟨Bd, 0, none⟩ = some (.pointer (some ⟨p, 0, none⟩)) ∧ w3.cell? ⟨Bn, 0, none⟩ = some (.string s) ∧ w3.cell? ⟨p, 0, none⟩ = some (.map (some b))) ∧
      ∃ w4, (Instr.mapUpdate 83 (.map (some b)) (.string s) (.slice a' n c')).run Tryz.prog w3 = .ok () w4 ∧
        Hid (w4.cell? ⟨Bf, 0, none⟩ = some (.slice a m c) ∧ w4.cell? ⟨Bm, 0, none⟩ = some (.int .i64 n) ∧ w4.cell? ⟨Bd, 0, none⟩ = some (.pointer (some ⟨p, 0, none⟩)) ∧ w4.cell? ⟨Bn, 0, none⟩ = some (.string s) ∧ w4.cell? ⟨p, 0, none⟩ = some (.map (some b))) ∧
        Hid (IsDisk w4 p (S.set s.data.toList (l.take n)) (grow Fp w w4) ∧ Turn Fp w w4) := by
    intro a' c' w3 ho hB3
    have hB3' : Below w.heap.size w w3 := ⟨hB3.os, hB3.tape, hB3.output, hB3.size, hB3.block⟩
    refine ⟨⟨?_, ?_, ?_, ?_, ?_⟩, ?_⟩
    · rw [hB3'.cell (World.block_lt_of_cell? w _ hbf)]; exact hbf
    · rw [hB3'.cell (World.block_lt_of_cell? w _ hbm)]; exact hbm
    · rw [hB3'.cell (World.block_lt_of_cell? w _ hbd)]; exact hbd
    · rw [hB3'.cell (World.block_lt_of_cell? w _ hbn)]; exact hbn
    · rw [hB3'.cell (World.block_lt_of_cell? w _ c0)]; exact c0
    · have ho' : w3.ownsRow 0 5 1 (.slice a' n c') (l.take n).length (cellsOf (l.take n)) := by rw [hln]; exact ownsRow_zero ho
      obtain ⟨w4, hr4, hd4, hT4⟩ := hd.put (w1 := w3) s hs vo (.slice a' n c') (l.take n) hvo hvb ⟨hB3.os, hB3.tape, hB3.output, hB3.size, fun k hk _ => hB3.block k hk⟩ ho' (hd.free_new _ _ (fun g hg => (ho.lt g hg).1)) hn
      exact ⟨w4, hr4, ⟨hT4.cell hbf nf, hT4.cell hbm nm, hT4.cell hbd nd, hT4.cell hbn nn, hd4.c0⟩, ⟨b, _, hd4⟩, hT4⟩
  have i0 : (0 : Int) ≤ (n : Int) := by omega
  have i1 : (n : Int) ≤ (c : Int) := by omega
  clear hd hvo hvb hb hbt
  go_enter Tryz.func119, Tryz.ntmps119
  go_wp2_with fail
  go_region_held3 (fun W => W.cell? ⟨Bf, 0, none⟩ = some (.slice a m c) ∧ W.cell? ⟨Bm, 0, none⟩ = some (.int .i64 n) ∧ W.cell? ⟨Bd, 0, none⟩ = some (.pointer (some ⟨p, 0, none⟩)) ∧ W.cell? ⟨Bn, 0, none⟩ = some (.string s) ∧ W.cell? ⟨p, 0, none⟩ = some (.map (some b)))
    (first
      | (go_split_ands
         refine ⟨by go_keep, by go_keep, by go_keep, by go_keep, by go_keep⟩)
      | (exact hc3.out)
      | (exact hc4.out))
    ((go_at_call 54; refine hclone.mono ?_; rintro e w3 ⟨a', c', rfl, ho3, hB3, hnc3, hnn3⟩; obtain ⟨hc3, w4, hupd, hc4, hfin⟩ := hput a' c' w3 ho3 hB3))
  go_wp2
  go_end0
  exact ⟨rfl, hfin.out⟩

end Go.Proofs.YtdjodigimhgklaaGreatDoor
