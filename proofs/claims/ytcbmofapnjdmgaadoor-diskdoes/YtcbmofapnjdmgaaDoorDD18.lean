import Derived.Test.YtcbmofapnjdmgaaDoorDD15
import Derived.Laws.AppendOwn
import Derived.Test.YtcbmofapnjdmgaaDoorRows
import Derived.Test.YtcbmofapnjdmgaaDoorDD10
import Derived.ProofKit
import Derived.OpenShut
import Derived.ShutString
import Derived.ChangeOld
import Derived.SizedLaws
/- The walk of the statements' own cut of a script. -/
namespace Go.Proofs.YtcbmofapnjdmgaaDoor
open Go.RowKit Go.Maps

/-- an operation as the script has it: few bytes -/
def GOp.short (o : GOp) : GOp := if o.len ≤ 4194304 then { o with len := min o.len 300 } else o
def flat (ops : List GOp) : List Value := (ops.map fun o => o.cells.toList).flatten
theorem flat_length (ops : List GOp) : (flat ops).length = ops.length * 5 := by
  induction ops with
  | nil => rfl
  | cons o r ih => simp [flat, GOp.cells] at ih ⊢; omega
theorem flat_snoc (ops : List GOp) (o : GOp) : flat (ops ++ [o]) = flat ops ++ o.cells.toList := by simp [flat]

/-- a slice of operations -/
structure Ops (w : World) (a : Option Addr) (n : Nat) (ops : List GOp) : Prop where
  len : ops.length = n
  cells : ∀ k o, ops[k]? = some o → ∃ b off, a = some ⟨b, off, none⟩ ∧ ∀ j v, o.cells.toList[j]? = some v → w.cell? ⟨b, off + k * 5 + j, none⟩ = some v
  fits : ∀ o ∈ ops, o.name.size ≤ maxLen ∧ o.to.size ≤ maxLen ∧ o.len ≤ o.cap ∧ (o.ad = none → o.len = 0 ∧ o.cap = 0) ∧ ∃ l, Bytes w o.ad o.len l

theorem Tryd.info34 : (Tryd.prog.info? 34).map (fun i => (i.zero, i.size, i.bytes)) = some (some (.agg #[.int .i64 0, .string ⟨#[]⟩, .string ⟨#[]⟩, .int .i64 0, .slice none 0 0]), 5, 72) := by kernel_rfl

theorem wpList_push_op {wr : World} {ops : Array Oper} {rest : List Oper} {o : Oper} {a : Act} {Q : Exit → Act → World → Prop} (g : GOp)
    (hgd : o.guard = none) (s x : Operand) (hop : o.op = Op.call { callee := Callee.builtin Builtin.append, args := #[s, x], argTypes := #[22, 22] })
    (base k : Nat) (v : Value) (xs : List Value) (hs : a.eval s = v) (hx : a.eval x = .slice (some ⟨wr.heap.size + 1, 0, none⟩) 1 1)
    (hown : wr.ownsRow base 34 5 v k xs) (hk : k ≤ 60) (hb : base ≤ wr.heap.size)
    (hK : ∀ ad' c' w', w'.ownsRow base 34 5 (.slice ad' (k + 1) c') (k + 1) (xs ++ g.cells.toList) → Below base wr w' → wpList Tryd.prog ops Q rest (a.put o.dst (.slice ad' (k + 1) c')) w') :
    wpList Tryd.prog ops Q (o :: rest) a ((wr.alloc (.cells g.cells 34)).alloc (.cells g.cells 34)) := by
  obtain ⟨i0, hi, hz0, hz1, hz2⟩ := info_parts Tryd.info34
  refine wpList_append_own _ hgd s x 22 hop base 34 i0 _ 5 72 Tryd.underlying22 hi hz0 hz1 hz2 rfl (by omega) v k xs hs ((hown.alloc _).alloc _) ⟨wr.heap.size + 1, 0, none⟩ 1 1 g.cells.toList hx (by simp [GOp.cells]) ?_ ?_ (by unfold maxLen; omega) (by omega) (by simp; omega) ?_
  · have := heap_alloc_new (wr.alloc (.cells g.cells 34)) (.cells g.cells 34)
    rw [World.size_alloc] at this
    intro j u hu
    have hadd : (⟨wr.heap.size + 1, 0, none⟩ : Addr).add j = ⟨wr.heap.size + 1, j, none⟩ := by unfold Addr.add; split <;> simp_all
    rw [hadd, cell_of_row _ _ j g.cells _ _ this]
    simpa using hu
  · intro u hu
    simp [GOp.cells] at hu
    rcases hu with rfl | rfl | rfl | rfl | rfl <;> rfl
  · intro v' w' h1 h2 _
    have hsh : ∃ ad' c', v' = .slice ad' (k + 1) c' := by
      rcases h1.2 with ⟨_, h0⟩ | ⟨g', cap, cur, rfl, _⟩
      · omega
      · exact ⟨_, _, rfl⟩
    obtain ⟨ad', c', rfl⟩ := hsh
    exact hK ad' c' w' h1 ((((Below.refl base wr).alloc hb _).alloc (by simp; omega) _).grown h2 (by simp; omega) (fun j hj => (hown.lt j hj).1))

theorem take_snoc {α : Type} (l : List α) (k : Nat) (x : α) (h : l[k]? = some x) : l.take (k + 1) = l.take k ++ [x] := by
  rw [List.take_add_one, h]; rfl

set_option maxRecDepth 20000 in
set_option maxHeartbeats 4000000 in
theorem script_any (a : Option Addr) (n c : Nat) (ops : List GOp) (w : World) (h : Ops w a n ops) (hn : n ≤ 9223372036854775807) :
    Calls Tryd.prog 7 #[.slice a n c] w fun e w' => ∃ (ad' : Option Addr) (c' m : Nat), e = .returned (.slice ad' m c') ∧ Hid (m = ((ops.map GOp.short).take 60).length) ∧ w'.ownsRow w.heap.size 34 5 (.slice ad' m c') m (flat ((ops.map GOp.short).take 60)) ∧ Below w.heap.size w w' := by
  obtain ⟨i0, hi, hz0, hz1, hz2⟩ := info_parts Tryd.info34
  have hll := h.len
  go_enter Tryd.func7, Tryd.ntmps7
  go_wp2_with fail
  go_loopw [3, 8] (fun v i wr => ∃ (k c' : Nat) (ad' : Option Addr), k ≤ n ∧ k ≤ 60 ∧ i = .int .i64 k ∧ v = .slice ad' k c' ∧ Hid (wr.ownsRow w.heap.size 34 5 (.slice ad' k c') k (flat ((ops.map GOp.short).take k))) ∧ Below w.heap.size w wr) (fun _ i _ => n - (intOf i).toNat)
  case atStart => exact ⟨0, 0, none, Nat.zero_le _, by omega, rfl, rfl, World.ownsRow_nil _ _ _ _, Below.refl _ _⟩
  case round =>
    obtain ⟨k, c', ad', hk, hk60, rfl, rfl, HO, hB⟩ := hrel
    by_cases hlt : k < n
    · have i3 : (k : Int) < (n : Int) := by omega
      have i4 : (0 : Int) ≤ (k : Int) := by omega
      obtain ⟨o, ho⟩ : ∃ o, ops[k]? = some o := ⟨ops[k]'(by omega), by simp [hll, hlt]⟩
      obtain ⟨b, off, rfl, hc⟩ := h.cells k o ho
      have hfit := h.fits o (List.mem_of_getElem? ho)
      have hsh : (ops.map GOp.short)[k]? = some o.short := by simp [ho]
      obtain ⟨kind, name, to, nn, ad, len, cap⟩ := o
      have q0 : wr.cell? ⟨b, off + k * 5, none⟩ = some (.int .i64 kind) := by have := hc 0 _ rfl; rw [Nat.add_zero] at this; rw [hB.cell (World.block_lt_of_cell? w _ this)]; exact this
      have q1 : wr.cell? ⟨b, off + k * 5 + 1, none⟩ = some (.string name) := by have := hc 1 _ rfl; rw [hB.cell (World.block_lt_of_cell? w _ this)]; exact this
      have q2 : wr.cell? ⟨b, off + k * 5 + 2, none⟩ = some (.string to) := by have := hc 2 _ rfl; rw [hB.cell (World.block_lt_of_cell? w _ this)]; exact this
      have q3 : wr.cell? ⟨b, off + k * 5 + 3, none⟩ = some (.int .i64 nn) := by have := hc 3 _ rfl; rw [hB.cell (World.block_lt_of_cell? w _ this)]; exact this
      have q4 : wr.cell? ⟨b, off + k * 5 + 4, none⟩ = some (.slice ad len cap) := by have := hc 4 _ rfl; rw [hB.cell (World.block_lt_of_cell? w _ this)]; exact this
      clear hc
      by_cases h60 : k = 60
      · subst h60
        go_wp2
        go_ret
        exact ⟨ad', c', 60, rfl, (by show _ = _; rfl), HO.out.alloc _, hB.alloc hB.size _⟩
      · have i5 : ¬ (k : Int) = 60 := by omega
        have hB' := hB.size
        by_cases hbig : len ≤ 4194304
        · have i6 : (len : Int) ≤ 4194304 := by omega
          obtain ⟨m, hm⟩ : ∃ m : Nat, (if (300 : Int) < (len : Int) then (300 : Int) else (len : Int)) = (m : Int) := by split; exact ⟨300, rfl⟩; exact ⟨len, rfl⟩
          have hme : m = min len 300 := by split at hm <;> omega
          have i7 : (0 : Int) ≤ (m : Int) := by omega
          have hcap : len ≤ cap := hfit.2.2.1
          have i8 : (m : Int) ≤ (cap : Int) := by omega
          have hs2 : (GOp.mk kind name to nn ad len cap).short = ⟨kind, name, to, nn, ad, m, cap⟩ := by rw [hme]; simp [GOp.short, hbig]
          rw [hs2] at hsh
          have HH : Hid (flat ((ops.map GOp.short).take (k + 1)) = flat ((ops.map GOp.short).take k) ++ (GOp.mk kind name to nn ad m cap).cells.toList) := by
            show _ = _
            rw [take_snoc _ _ _ hsh, flat_snoc]
          have Hm : Hid (m = min len 300) := hme
          clear hme hs2 hsh hfit ho hcap
          go_wp2_with (at_builtin; refine wpList_push_op (wr := wr) ⟨kind, name, to, nn, ad, m, cap⟩ rfl _ _ rfl w.heap.size k (.slice ad' k c') _ rfl rfl HO.out hk60 hB' ?_; intro ad2 c2 w2 ho2 hb2)
          refine ⟨⟨k + 1, c2, ad2, by omega, by omega, by simp, by simp, ?_, hB.trans (hb2.mono (Nat.le_refl _))⟩, by simp [intOf]; omega⟩
          show World.ownsRow _ _ _ _ _ _ _
          rw [HH.out]
          exact ho2
        · have i6 : ¬ (len : Int) ≤ 4194304 := by omega
          have hs2 : (GOp.mk kind name to nn ad len cap).short = ⟨kind, name, to, nn, ad, len, cap⟩ := by simp [GOp.short, hbig]
          rw [hs2] at hsh
          have HH : Hid (flat ((ops.map GOp.short).take (k + 1)) = flat ((ops.map GOp.short).take k) ++ (GOp.mk kind name to nn ad len cap).cells.toList) := by
            show _ = _
            rw [take_snoc _ _ _ hsh, flat_snoc]
          clear hs2 hsh hfit ho
          go_wp2_with (at_builtin; refine wpList_push_op (wr := wr) ⟨kind, name, to, nn, ad, len, cap⟩ rfl _ _ rfl w.heap.size k (.slice ad' k c') _ rfl rfl HO.out hk60 hB' ?_; intro ad2 c2 w2 ho2 hb2)
          refine ⟨⟨k + 1, c2, ad2, by omega, by omega, by simp, by simp, ?_, hB.trans (hb2.mono (Nat.le_refl _))⟩, by simp [intOf]; omega⟩
          show World.ownsRow _ _ _ _ _ _ _
          rw [HH.out]
          exact ho2
    · have i3 : ¬ (k : Int) < (n : Int) := by omega
      obtain rfl : k = n := by omega
      go_wp2
      go_ret
      have hl60 : (ops.map GOp.short).take 60 = (ops.map GOp.short).take k := by
        rw [List.take_of_length_le (by simp; omega), List.take_of_length_le (by simp; omega)]
      exact ⟨ad', c', k, rfl, (by show _ = _; rfl), by rw [hl60]; exact HO.out, hB⟩

end Go.Proofs.YtcbmofapnjdmgaaDoor

/- Proved here: for every name, number and bytes the law DiskNone returns true, and its arguments read as before. No condition. -/
namespace Go.Proofs.YtcbmofapnjdmgaaDoor
open Go.ChangeShapes Go.WideShapes Go.ChangeAt Go.RowKit
open Go.ChangeMaps (open_string shut_string)

theorem own : ownKnob Tryd.prog.godebug = none := by kernel_rfl
theorem laidOut : laidOutB Tryd.prog = true := by kernel_rfl

theorem below_more {w w1 w2 : World} (h : Below w.heap.size w w1) (k : Below w1.heap.size w1 w2) : Below w.heap.size w w2 := h.trans (k.mono h.size)

theorem below_a {w w1 : World} {o : Obj} (h : Below w.heap.size w w1) : Below w.heap.size w (w1.alloc o) := h.alloc h.size o

theorem file_nil (w : World) (s : Value) : Calls Tryd.prog 34 #[.pointer none, s] w fun e w' => e = .returned (.tuple #[.slice none 0 0, .int .i64 1]) ∧ w' = w := by
  go_enter Tryd.func34, Tryd.ntmps34
  go_wp2
  go_ret2
  exact ⟨rfl, rfl⟩
theorem read_nil (w : World) (s : Value) : Calls Tryd.prog 13 #[.pointer none, s] w fun e w' => e = .returned (.tuple #[.slice none 0 0, .int .i64 1]) ∧ w' = w := by
  have hb : Bytes w none 0 [] := ⟨rfl, fun h => by omega⟩
  have q22 : ∀ (w : World) (a : Option Addr) (n c n' c' : Nat), (binOp .eql 32 (.slice a n c) (.slice none n' c')).run Tryd.prog w = .ok (.bool a.isNone) w := fun w a n c n' c' => Lib.run_eql_slice_nil w _ _ a n c n' c' Tryd.underlying32
  go_enter Tryd.func13, Tryd.ntmps13
  go_wp2_with (first | (go_at_call 34; refine (file_nil _ _).mono ?_; rintro e w' ⟨rfl, rfl⟩) | go_in)
  go_ret2
  exact ⟨rfl, rfl⟩
theorem size_nil (w : World) (s : Value) : Calls Tryd.prog 38 #[.pointer none, s] w fun e w' => e = .returned (.tuple #[.int .i64 0, .int .i64 1]) ∧ w' = w := by
  go_enter Tryd.func38, Tryd.ntmps38
  go_wp2_with (go_at_call 34; refine (file_nil _ _).mono ?_; rintro e w' ⟨rfl, rfl⟩)
  go_ret2
  exact ⟨rfl, rfl⟩
theorem append_nil (w : World) (s b : Value) : Calls Tryd.prog 12 #[.pointer none, s, b] w fun e w' => e = .returned (.int .i64 1) ∧ w' = w := by
  go_enter Tryd.func12, Tryd.ntmps12
  go_wp2
  go_ret
  exact ⟨rfl, rfl⟩
theorem truncate_nil (w : World) (s : ByteArray) (n : Int) : Calls Tryd.prog 23 #[.pointer none, .string s, .int .i64 n] w fun e w' => e = .returned (.int .i64 1) ∧ Below w.heap.size w w' := by
  go_enter Tryd.func23, Tryd.ntmps23
  go_wp2_with (go_at_call 34; refine (file_nil _ _).mono ?_; rintro e w' ⟨rfl, rfl⟩)
  go_ret
  refine ⟨rfl, ?_⟩
  first | exact below_a (below_a (below_a (below_a (Below.refl _ _)))) | exact below_a (below_a (below_a (Below.refl _ _))) | exact below_a (below_a (Below.refl _ _))
theorem rename_nil (w : World) (s n : ByteArray) : Calls Tryd.prog 25 #[.pointer none, .string s, .string n] w fun e w' => e = .returned (.int .i64 1) ∧ Below w.heap.size w w' := by
  go_enter Tryd.func25, Tryd.ntmps25
  go_wp2
  go_ret
  refine ⟨rfl, ?_⟩
  first | exact below_a (below_a (below_a (below_a (Below.refl _ _)))) | exact below_a (below_a (below_a (Below.refl _ _))) | exact below_a (below_a (Below.refl _ _))
theorem remove_nil (w : World) (s : ByteArray) : Calls Tryd.prog 27 #[.pointer none, .string s] w fun e w' => e = .returned (.int .i64 1) ∧ Below w.heap.size w w' := by
  go_enter Tryd.func27, Tryd.ntmps27
  go_wp2_with (go_at_call 34; refine (file_nil _ _).mono ?_; rintro e w' ⟨rfl, rfl⟩)
  go_ret
  refine ⟨rfl, ?_⟩
  first | exact below_a (below_a (below_a (below_a (Below.refl _ _)))) | exact below_a (below_a (below_a (Below.refl _ _))) | exact below_a (below_a (Below.refl _ _))
theorem cut_nil (w : World) (n : Value) : Calls Tryd.prog 29 #[.pointer none, n] w fun e w' => e = .returned (.int .i64 1) ∧ w' = w := by
  go_enter Tryd.func29, Tryd.ntmps29
  go_wp2
  go_ret
  exact ⟨rfl, rfl⟩
theorem mend_nil (w : World) : Calls Tryd.prog 30 #[.pointer none] w fun e w' => e = .returned (.int .i64 1) ∧ w' = w := by
  go_enter Tryd.func30, Tryd.ntmps30
  go_wp2
  go_ret
  exact ⟨rfl, rfl⟩
theorem cutting_nil (w : World) : Calls Tryd.prog 19 #[.pointer none] w fun e w' => e = .returned (.tuple #[.int .i64 0, .bool false]) ∧ w' = w := by
  go_enter Tryd.func19, Tryd.ntmps19
  go_wp2
  go_ret2
  exact ⟨rfl, rfl⟩
theorem copy_nil (w : World) : Calls Tryd.prog 8 #[.pointer none] w fun e w' => e = .returned (.pointer none) ∧ w' = w := by
  go_enter Tryd.func8, Tryd.ntmps8
  go_wp2
  go_ret
  exact ⟨rfl, rfl⟩
theorem names_nil (w : World) : Calls Tryd.prog 16 #[.pointer none] w fun e w' => e = .returned (.slice none 0 0) ∧ w' = w := by
  go_enter Tryd.func16, Tryd.ntmps16
  go_wp2
  go_ret
  exact ⟨rfl, rfl⟩
theorem writes_nil (w : World) : Calls Tryd.prog 14 #[.pointer none] w fun e w' => e = .returned (.int .i64 0) ∧ w' = w := by
  go_enter Tryd.func14, Tryd.ntmps14
  go_wp2
  go_ret
  exact ⟨rfl, rfl⟩

end Go.Proofs.YtcbmofapnjdmgaaDoor
