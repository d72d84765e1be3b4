import Derived.Test.YtdchmmdndgbllaaDoorY14
import Derived.Test.YtdchmmdndgbllaaDoorY08
import Derived.Test.YtdchmmdndgbllaaDoorY11
import Derived.Laws.StructEq
/- The walks of what stands on Path: isPath, count, rest, Rest, In, firstErr, join, Move. -/
namespace Go.Proofs.YtdchmmdndgbllaaDoor
open Go.RowKit Go.Shelf

attribute [local go_sem] Oper.semAt_some

theorem field0 (a b : Value) (w : World) : (Instr.field 35 (.agg #[a, b]) 0).run Tryd.prog w = .ok a w := by kernel_rfl
/-- how many rounds have been -/
structure CountI {s : ByteArray} (w : World) (pre : List (Pc s)) (W : World) : Prop where
  n : Boxed W w.heap.size 3 (.int .i64 (pre.length : Int))
  p : Boxed W (w.heap.size + 1) 9 (.string s)
  b : Below w.heap.size w W
theorem countI_own {s : ByteArray} (w : World) (b0 : Nat) (h0 : w.heap.size ≤ b0) : OwnFrom b0 (CountI (s := s) w) := fun _ _ _ _ hs hg hr =>
  ⟨boxed_keep hs.n hg hr, boxed_keep hs.p hg hr, below_keep hs.b (Nat.le_refl _) h0 hg hr⟩

theorem parts_count (l : List UInt8) : (parts l).length ≤ l.length + 1 := by
  have h : ∀ (l cur : List UInt8), (cutS cur l).length ≤ l.length + 1 := by
    intro l
    induction l with
    | nil => intro cur; simp [cutS]
    | cons c t ih =>
      intro cur
      unfold cutS
      split
      · have := ih []; simp only [List.length_cons]; omega
      · have := ih (cur ++ [c]); simp only [List.length_cons]; omega
  unfold parts
  split
  · simp
  · exact h l []

theorem lite_cut (s p : ByteArray) (w : World) (hs : s.size ≤ 1000000) (hp : p.size ≤ 1000000) :
    Calls Tryd.prog 64 #[.string s, .string p] w fun e w' => e = .returned (.tuple #[.string (if pre (bs p) (bs s) then s.extract p.size s.size else s), .bool (pre (bs p) (bs s))]) ∧ w' = w := by
  have hx := lite_prefix s p w (by unfold maxLen; omega) (by unfold maxLen; omega)
  cases hpr : pre (bs p) (bs s) with
  | false =>
    rw [hpr] at hx
    go_enter Tryd.func64, Tryd.ntmps64
    go_wp2_with (go_at_call 74; refine hx.mono ?_; rintro e w' ⟨rfl, rfl⟩)
    go_ret2
    exact ⟨rfl, rfl⟩
  | true =>
    have hle : p.size ≤ s.size := by have := ((pre_iff _ _).1 hpr).length_le; rw [bs_len, bs_len] at this; exact this
    have i1 : (p.size : Int) ≤ s.size := by omega
    rw [hpr] at hx
    go_enter Tryd.func64, Tryd.ntmps64
    go_wp2_with (go_at_call 74; refine hx.mono ?_; rintro e w' ⟨rfl, rfl⟩)
    go_ret2
    exact ⟨rfl, rfl⟩
theorem cut_prefix (s p : ByteArray) (w : World) (hs : s.size ≤ 1000000) (hp : p.size ≤ 1000000) :
    Calls Tryd.prog 50 #[.string s, .string p] w fun e w' => e = .returned (.tuple #[.string (if pre (bs p) (bs s) then s.extract p.size s.size else s), .bool (pre (bs p) (bs s))]) ∧ w' = w := by
  have hx := lite_cut s p w hs hp
  generalize (if pre (bs p) (bs s) then s.extract p.size s.size else s) = S at hx ⊢
  generalize pre (bs p) (bs s) = b at hx ⊢
  go_enter Tryd.func50, Tryd.ntmps50
  go_wp2_with (go_at_call 64; refine hx.mono ?_; rintro e w' ⟨rfl, rfl⟩)
  go_ret2
  exact ⟨rfl, rfl⟩

def restS (p q : ByteArray) : ByteArray := mk ((restP (bs p) (bs q)).getD [])
def restB (p q : ByteArray) : Bool := (restP (bs p) (bs q)).isSome
theorem restP_len (p q r : List UInt8) (h : restP p q = some r) : r.length ≤ p.length := by
  unfold restP at h
  split at h
  · cases h; exact Nat.le_refl _
  · split at h
    · cases h; simp
    · split at h
      · cases h; rw [List.length_drop]; omega
      · cases h
theorem restS_size (p q : ByteArray) : (restS p q).size ≤ p.size := by
  unfold restS
  rw [← bs_len, bs_mk, ← bs_len p]
  cases h : restP (bs p) (bs q) with
  | none => simp
  | some r => exact restP_len _ _ _ h

end Go.Proofs.YtdchmmdndgbllaaDoor

/- A rule in memory, and rules held against each other. -/
namespace Go.Proofs.YtdchmmdndgbllaaDoor
open Go.RowKit Go.Shelf

attribute [local go_sem] Oper.semAt_some

abbrev rv (k : Int) (f t : ByteArray) : Value := .agg #[.int .i64 k, .string f, .string t]
/-- the value of a rule -/
abbrev ruV (r : Ru) : Value := rv r.1 (mk r.2.1) (mk r.2.2)
theorem eqR (w : World) (k k' : Int) (f f' t t' : ByteArray) : (binOp .eql 26 (rv k f t) (rv k' f' t')).run Tryd.prog w = .ok (.bool (k == k' && (f.toList == f'.toList && t.toList == t'.toList))) w := by
  have u3 := Tryd.underlying3
  have u9 := Tryd.underlying9
  have hS : Tryd.prog.underlying 26 = some (.struct (Tryd.prog.fieldsOf 26)) := by kernel_rfl
  have hp : Tryd.prog.stoodInHeld 26 = false := by kernel_rfl
  rw [run_eql_struct, show (10000 : Nat) = 9999 + 1 from rfl, run_equalIn_agg w 9999 26 _ _ hS hp]
  simp only [Program.fieldsOf, Tryd.underlying26]
  go_simp
  cases h1 : (k == k') <;> cases h2 : (f.toList == f'.toList) <;> cases h3 : (t.toList == t'.toList) <;> simp_all
theorem neR (w : World) (k k' : Int) (f f' t t' : ByteArray) : (binOp .neq 26 (rv k f t) (rv k' f' t')).run Tryd.prog w = .ok (.bool (!(k == k' && (f.toList == f'.toList && t.toList == t'.toList)))) w := by
  have h := eqR w k k' f f' t t'
  rw [run_eql_struct] at h
  rw [run_neq_struct]
  generalize (Op.equalIn 10000 26 (rv k f t) (rv k' f' t')).run Tryd.prog w = r at *
  cases r with
  | ok b w1 =>
    simp only [Result.andThen] at h ⊢
    cases h
    rfl
  | halt x w1 => cases h
theorem eqS (w : World) (a b c d : Int) : (binOp .eql 35 (.agg #[.int .i64 a, .int .i64 b]) (.agg #[.int .i64 c, .int .i64 d])).run Tryd.prog w = .ok (.bool (a == c && b == d)) w := by
  have u3 := Tryd.underlying3
  have u9 := Tryd.underlying24
  have hS : Tryd.prog.underlying 35 = some (.struct (Tryd.prog.fieldsOf 35)) := by kernel_rfl
  have hp : Tryd.prog.stoodInHeld 35 = false := by kernel_rfl
  rw [run_eql_struct, show (10000 : Nat) = 9999 + 1 from rfl, run_equalIn_agg w 9999 35 _ _ hS hp]
  simp only [Program.fieldsOf, Tryd.underlying35]
  go_simp
  cases h1 : (a == c) <;> cases h2 : (b == d) <;> simp_all

def BoxR (W : World) (g : Nat) (k : Int) (f t : ByteArray) : Prop := W.heap[g]? = some (.cells #[.int .i64 k, .string f, .string t] 26 (0, 0))
theorem BoxR.lt {W : World} {g : Nat} {k : Int} {f t : ByteArray} (h : BoxR W g k f t) : g < W.heap.size := (Array.getElem?_eq_some_iff.1 h).1
theorem BoxR.new (W : World) (k : Int) (f t : ByteArray) : BoxR (W.alloc (.cells #[.int .i64 k, .string f, .string t] 26)) W.heap.size k f t := World.alloc_heap_new W _
theorem BoxR.below {W W' : World} {B g : Nat} {k : Int} {f t : ByteArray} (h : BoxR W g k f t) (hB : Below B W W') (hg : g < B) : BoxR W' g k f t := (hB.block g hg).trans h
theorem BoxR.cell {W : World} {g : Nat} {k : Int} {f t : ByteArray} (h : BoxR W g k f t) : W.cell? ⟨g, 0, none⟩ = some (.int .i64 k) ∧ W.cell? ⟨g, 1, none⟩ = some (.string f) ∧ W.cell? ⟨g, 2, none⟩ = some (.string t) := by
  unfold BoxR at h
  refine ⟨?_, ?_, ?_⟩ <;> simp [World.cell?, h]
theorem BoxR.frozen {W : World} {g : Nat} {k : Int} {f t : ByteArray} (h : BoxR W g k f t) : W.frozen? ⟨g, 0, none⟩ = false ∧ W.frozen? ⟨g, 1, none⟩ = false ∧ W.frozen? ⟨g, 2, none⟩ = false := by
  unfold BoxR at h
  refine ⟨?_, ?_, ?_⟩ <;> simp [World.frozen?, h]
theorem BoxR.all {W : World} {g : Nat} {k : Int} {f t : ByteArray} (h : BoxR W g k f t) (k' : Int) (f' t' : ByteArray) : BoxR (((W.setCell ⟨g, 0, none⟩ (.int .i64 k')).setCell ⟨g, 1, none⟩ (.string f')).setCell ⟨g, 2, none⟩ (.string t')) g k' f' t' := by
  have h' := h
  unfold BoxR at h'
  simp [BoxR, World.setCell, Array.getElem?_modify, h', Array.setIfInBounds]
theorem BoxR.set0 {W : World} {g : Nat} {k : Int} {f t : ByteArray} (h : BoxR W g k f t) (k' : Int) : BoxR (W.setCell ⟨g, 0, none⟩ (.int .i64 k')) g k' f t := by
  have h' := h
  unfold BoxR at h'
  simp [BoxR, World.setCell, Array.getElem?_modify, h', Array.setIfInBounds]
theorem BoxR.set1 {W : World} {g : Nat} {k : Int} {f t : ByteArray} (h : BoxR W g k f t) (f' : ByteArray) : BoxR (W.setCell ⟨g, 1, none⟩ (.string f')) g k f' t := by
  have h' := h
  unfold BoxR at h'
  simp [BoxR, World.setCell, Array.getElem?_modify, h', Array.setIfInBounds]
theorem BoxR.set2 {W : World} {g : Nat} {k : Int} {f t : ByteArray} (h : BoxR W g k f t) (t' : ByteArray) : BoxR (W.setCell ⟨g, 2, none⟩ (.string t')) g k f t' := by
  have h' := h
  unfold BoxR at h'
  simp [BoxR, World.setCell, Array.getElem?_modify, h', Array.setIfInBounds]
theorem BoxR.other {W : World} {g j i : Nat} {k : Int} {f t : ByteArray} (h : BoxR W g k f t) (hk : g ≠ j) (u : Value) : BoxR (W.setCell ⟨j, i, none⟩ u) g k f t :=
  (Below.heap_setCell _ _ _ _ hk).trans h
theorem str_empty (s : ByteArray) : s.toList.isEmpty = decide (bs s = []) := by
  rw [toList_bs]
  cases bs s <;> rfl
end Go.Proofs.YtdchmmdndgbllaaDoor
