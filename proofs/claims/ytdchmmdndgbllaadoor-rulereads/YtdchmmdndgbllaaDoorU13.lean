import Derived.Test.YtdchmmdndgbllaaDoorU12
import Derived.Test.YtdchmmdndgbllaaDoorU08
import Derived.Test.YtdchmmdndgbllaaDoorU10
import Derived.Laws.StructEq
import Derived.Shelf.Strings.Builder1
import Derived.Shelf.Small.Strs
import Derived.Shelf.Small.Wraps
import Derived.Shelf.Strings.BuilderF
import Derived.Shelf.Strings.BuilderK
import Derived.Shelf.Utf8.AppendRunePlain
import Derived.Shelf.Strings.Search1
import Derived.Shelf.Strings.Prefix
import Derived.Shelf.Unicode.DecodeSlow
import Derived.Shelf.Unicode.DecodeAny
import Derived.Test.YtdchmmdndgbllaaDoorProg
/- The walks of what stands on Path: isPath, count, rest, Rest, In, firstErr, join, Move. -/
namespace Go.Proofs.YtdchmmdndgbllaaDoor
open Go.RowKit Go.Shelf

attribute [local go_sem] Oper.semAt_some

theorem field0 (a b : Value) (w : World) : (Instr.field 35 (.agg #[a, b]) 0).run Tryd.prog w = .ok a w := by kernel_rfl
/-- how many rounds have been -/
structure CountI {s : ByteArray} (w : World) (pre : List (Pc s)) (W : World) : Prop where
  n : Boxed W w.heap.size 3 (.int .i64 (pre.length : Int))
  p : Boxed W (w.heap.size + 1) 9 (.string s)
  b : Below w.heap.size w W
theorem countI_own {s : ByteArray} (w : World) (b0 : Nat) (h0 : w.heap.size ≤ b0) : OwnFrom b0 (CountI (s := s) w) := fun _ _ _ _ hs hg hr =>
  ⟨boxed_keep hs.n hg hr, boxed_keep hs.p hg hr, below_keep hs.b (Nat.le_refl _) h0 hg hr⟩

theorem parts_count (l : List UInt8) : (parts l).length ≤ l.length + 1 := by
  have h : ∀ (l cur : List UInt8), (cutS cur l).length ≤ l.length + 1 := by
    intro l
    induction l with
    | nil => intro cur; simp [cutS]
    | cons c t ih =>
      intro cur
      unfold cutS
      split
      · have := ih []; simp only [List.length_cons]; omega
      · have := ih (cur ++ [c]); simp only [List.length_cons]; omega
  unfold parts
  split
  · simp
  · exact h l []

theorem lite_cut (s p : ByteArray) (w : World) (hs : s.size ≤ 1000000) (hp : p.size ≤ 1000000) :
    Calls Tryd.prog 64 #[.string s, .string p] w fun e w' => e = .returned (.tuple #[.string (if pre (bs p) (bs s) then s.extract p.size s.size else s), .bool (pre (bs p) (bs s))]) ∧ w' = w := by
  have hx := lite_prefix s p w (by unfold maxLen; omega) (by unfold maxLen; omega)
  cases hpr : pre (bs p) (bs s) with
  | false =>
    rw [hpr] at hx
    go_enter Tryd.func64, Tryd.ntmps64
    go_wp2_with (go_at_call 74; refine hx.mono ?_; rintro e w' ⟨rfl, rfl⟩)
    go_ret2
    exact ⟨rfl, rfl⟩
  | true =>
    have hle : p.size ≤ s.size := by have := ((pre_iff _ _).1 hpr).length_le; rw [bs_len, bs_len] at this; exact this
    have i1 : (p.size : Int) ≤ s.size := by omega
    rw [hpr] at hx
    go_enter Tryd.func64, Tryd.ntmps64
    go_wp2_with (go_at_call 74; refine hx.mono ?_; rintro e w' ⟨rfl, rfl⟩)
    go_ret2
    exact ⟨rfl, rfl⟩
theorem cut_prefix (s p : ByteArray) (w : World) (hs : s.size ≤ 1000000) (hp : p.size ≤ 1000000) :
    Calls Tryd.prog 50 #[.string s, .string p] w fun e w' => e = .returned (.tuple #[.string (if pre (bs p) (bs s) then s.extract p.size s.size else s), .bool (pre (bs p) (bs s))]) ∧ w' = w := by
  have hx := lite_cut s p w hs hp
  generalize (if pre (bs p) (bs s) then s.extract p.size s.size else s) = S at hx ⊢
  generalize pre (bs p) (bs s) = b at hx ⊢
  go_enter Tryd.func50, Tryd.ntmps50
  go_wp2_with (go_at_call 64; refine hx.mono ?_; rintro e w' ⟨rfl, rfl⟩)
  go_ret2
  exact ⟨rfl, rfl⟩

def restS (p q : ByteArray) : ByteArray := mk ((restP (bs p) (bs q)).getD [])
def restB (p q : ByteArray) : Bool := (restP (bs p) (bs q)).isSome
theorem restP_len (p q r : List UInt8) (h : restP p q = some r) : r.length ≤ p.length := by
  unfold restP at h
  split at h
  · cases h; exact Nat.le_refl _
  · split at h
    · cases h; simp
    · split at h
      · cases h; rw [List.length_drop]; omega
      · cases h
theorem restS_size (p q : ByteArray) : (restS p q).size ≤ p.size := by
  unfold restS
  rw [← bs_len, bs_mk, ← bs_len p]
  cases h : restP (bs p) (bs q) with
  | none => simp
  | some r => exact restP_len _ _ _ h

end Go.Proofs.YtdchmmdndgbllaaDoor

/- A rule in memory, and rules held against each other. -/
namespace Go.Proofs.YtdchmmdndgbllaaDoor
open Go.RowKit Go.Shelf

attribute [local go_sem] Oper.semAt_some

abbrev rv (k : Int) (f t : ByteArray) : Value := .agg #[.int .i64 k, .string f, .string t]
/-- the value of a rule -/
abbrev ruV (r : Ru) : Value := rv r.1 (mk r.2.1) (mk r.2.2)
theorem eqR (w : World) (k k' : Int) (f f' t t' : ByteArray) : (binOp .eql 26 (rv k f t) (rv k' f' t')).run Tryd.prog w = .ok (.bool (k == k' && (f.toList == f'.toList && t.toList == t'.toList))) w := by
  have u3 := Tryd.underlying3
  have u9 := Tryd.underlying9
  have hS : Tryd.prog.underlying 26 = some (.struct (Tryd.prog.fieldsOf 26)) := by kernel_rfl
  have hp : Tryd.prog.stoodInHeld 26 = false := by kernel_rfl
  rw [run_eql_struct, show (10000 : Nat) = 9999 + 1 from rfl, run_equalIn_agg w 9999 26 _ _ hS hp]
  simp only [Program.fieldsOf, Tryd.underlying26]
  go_simp
  cases h1 : (k == k') <;> cases h2 : (f.toList == f'.toList) <;> cases h3 : (t.toList == t'.toList) <;> simp_all
theorem neR (w : World) (k k' : Int) (f f' t t' : ByteArray) : (binOp .neq 26 (rv k f t) (rv k' f' t')).run Tryd.prog w = .ok (.bool (!(k == k' && (f.toList == f'.toList && t.toList == t'.toList)))) w := by
  have h := eqR w k k' f f' t t'
  rw [run_eql_struct] at h
  rw [run_neq_struct]
  generalize (Op.equalIn 10000 26 (rv k f t) (rv k' f' t')).run Tryd.prog w = r at *
  cases r with
  | ok b w1 =>
    simp only [Result.andThen] at h ⊢
    cases h
    rfl
  | halt x w1 => cases h
theorem eqS (w : World) (a b c d : Int) : (binOp .eql 35 (.agg #[.int .i64 a, .int .i64 b]) (.agg #[.int .i64 c, .int .i64 d])).run Tryd.prog w = .ok (.bool (a == c && b == d)) w := by
  have u3 := Tryd.underlying3
  have u9 := Tryd.underlying24
  have hS : Tryd.prog.underlying 35 = some (.struct (Tryd.prog.fieldsOf 35)) := by kernel_rfl
  have hp : Tryd.prog.stoodInHeld 35 = false := by kernel_rfl
  rw [run_eql_struct, show (10000 : Nat) = 9999 + 1 from rfl, run_equalIn_agg w 9999 35 _ _ hS hp]
  simp only [Program.fieldsOf, Tryd.underlying35]
  go_simp
  cases h1 : (a == c) <;> cases h2 : (b == d) <;> simp_all

def BoxR (W : World) (g : Nat) (k : Int) (f t : ByteArray) : Prop := W.heap[g]? = some (.cells #[.int .i64 k, .string f, .string t] 26 (0, 0))
theorem BoxR.lt {W : World} {g : Nat} {k : Int} {f t : ByteArray} (h : BoxR W g k f t) : g < W.heap.size := (Array.getElem?_eq_some_iff.1 h).1
theorem BoxR.new (W : World) (k : Int) (f t : ByteArray) : BoxR (W.alloc (.cells #[.int .i64 k, .string f, .string t] 26)) W.heap.size k f t := World.alloc_heap_new W _
theorem BoxR.below {W W' : World} {B g : Nat} {k : Int} {f t : ByteArray} (h : BoxR W g k f t) (hB : Below B W W') (hg : g < B) : BoxR W' g k f t := (hB.block g hg).trans h
theorem BoxR.cell {W : World} {g : Nat} {k : Int} {f t : ByteArray} (h : BoxR W g k f t) : W.cell? ⟨g, 0, none⟩ = some (.int .i64 k) ∧ W.cell? ⟨g, 1, none⟩ = some (.string f) ∧ W.cell? ⟨g, 2, none⟩ = some (.string t) := by
  unfold BoxR at h
  refine ⟨?_, ?_, ?_⟩ <;> simp [World.cell?, h]
theorem BoxR.frozen {W : World} {g : Nat} {k : Int} {f t : ByteArray} (h : BoxR W g k f t) : W.frozen? ⟨g, 0, none⟩ = false ∧ W.frozen? ⟨g, 1, none⟩ = false ∧ W.frozen? ⟨g, 2, none⟩ = false := by
  unfold BoxR at h
  refine ⟨?_, ?_, ?_⟩ <;> simp [World.frozen?, h]
theorem BoxR.all {W : World} {g : Nat} {k : Int} {f t : ByteArray} (h : BoxR W g k f t) (k' : Int) (f' t' : ByteArray) : BoxR (((W.setCell ⟨g, 0, none⟩ (.int .i64 k')).setCell ⟨g, 1, none⟩ (.string f')).setCell ⟨g, 2, none⟩ (.string t')) g k' f' t' := by
  have h' := h
  unfold BoxR at h'
  simp [BoxR, World.setCell, Array.getElem?_modify, h', Array.setIfInBounds]
theorem BoxR.set0 {W : World} {g : Nat} {k : Int} {f t : ByteArray} (h : BoxR W g k f t) (k' : Int) : BoxR (W.setCell ⟨g, 0, none⟩ (.int .i64 k')) g k' f t := by
  have h' := h
  unfold BoxR at h'
  simp [BoxR, World.setCell, Array.getElem?_modify, h', Array.setIfInBounds]
theorem BoxR.set1 {W : World} {g : Nat} {k : Int} {f t : ByteArray} (h : BoxR W g k f t) (f' : ByteArray) : BoxR (W.setCell ⟨g, 1, none⟩ (.string f')) g k f' t := by
  have h' := h
  unfold BoxR at h'
  simp [BoxR, World.setCell, Array.getElem?_modify, h', Array.setIfInBounds]
theorem BoxR.set2 {W : World} {g : Nat} {k : Int} {f t : ByteArray} (h : BoxR W g k f t) (t' : ByteArray) : BoxR (W.setCell ⟨g, 2, none⟩ (.string t')) g k f t' := by
  have h' := h
  unfold BoxR at h'
  simp [BoxR, World.setCell, Array.getElem?_modify, h', Array.setIfInBounds]
theorem BoxR.other {W : World} {g j i : Nat} {k : Int} {f t : ByteArray} (h : BoxR W g k f t) (hk : g ≠ j) (u : Value) : BoxR (W.setCell ⟨j, i, none⟩ u) g k f t :=
  (Below.heap_setCell _ _ _ _ hk).trans h
theorem str_empty (s : ByteArray) : s.toList.isEmpty = decide (bs s = []) := by
  rw [toList_bs]
  cases bs s <;> rfl
end Go.Proofs.YtdchmmdndgbllaaDoor

/- The kit's contracts on functions of Go's library, laid at this translation by the kit's own command, in plain words. -/
namespace Go.Proofs.YtdchmmdndgbllaaDoor
open Go.Shelf
def Tryd.lays137_ren : Go.Shelf.Ren := ⟨fun | 137 => 76 | 217 => 80 | 266 => 82 | n => n, fun | 9 => 9 | 5 => 5 | 3 => 3 | n => n, fun | n => n⟩
theorem Tryd.lays137 : Go.Proofs.Lays.n137 Tryd.prog Tryd.lays137_ren := {
  mixed := by kernel_rfl
  f137 := Tryd.func76.trans (congrArg some (by kernel_rfl))
  f217 := Tryd.func80.trans (congrArg some (by kernel_rfl))
  f266 := Tryd.func82.trans (congrArg some (by kernel_rfl))
  t3 := Tryd.underlying3
  a3 := Tryd.isAgg3
  z3 := Tryd.sizeOf3
  v3 := Tryd.zeroValue3
  t5 := Tryd.underlying5
  a5 := Tryd.isAgg5
  z5 := Tryd.sizeOf5
  v5 := Tryd.zeroValue5
  t9 := Tryd.underlying9
  a9 := Tryd.isAgg9
  z9 := Tryd.sizeOf9
  v9 := Tryd.zeroValue9 }
open Go.RowKit in
theorem Tryd.strings_IndexByte (s : ByteArray) (c : Int) (w : World) :
    Calls Tryd.prog 76 #[.string s, .int .u8 c] w fun e w' => e = .returned (.int .i64 (Lib.indexByte s.data.toList c.toNat.toUInt8)) ∧ w' = w := Any.strings_IndexByte Tryd.lays137 s c w
def Tryd.lays103_ren : Go.Shelf.Ren := ⟨fun | 103 => 50 | 210 => 64 | 206 => 74 | n => n, fun | 9 => 9 | 4 => 4 | 24 => 69 | 3 => 3 | n => n, fun | n => n⟩
theorem Tryd.lays103 : Go.Proofs.Lays.n103 Tryd.prog Tryd.lays103_ren := {
  mixed := by kernel_rfl
  f103 := Tryd.func50.trans (congrArg some (by kernel_rfl))
  f206 := Tryd.func74.trans (congrArg some (by kernel_rfl))
  f210 := Tryd.func64.trans (congrArg some (by kernel_rfl))
  t3 := Tryd.underlying3
  a3 := Tryd.isAgg3
  z3 := Tryd.sizeOf3
  v3 := Tryd.zeroValue3
  t4 := Tryd.underlying4
  a4 := Tryd.isAgg4
  z4 := Tryd.sizeOf4
  v4 := Tryd.zeroValue4
  t9 := Tryd.underlying9
  a9 := Tryd.isAgg9
  z9 := Tryd.sizeOf9
  v9 := Tryd.zeroValue9
  t24 := Tryd.underlying69
  a24 := Tryd.isAgg69
  z24 := Tryd.sizeOf69
  v24 := Tryd.zeroValue69 }
open Go.RowKit in
theorem Tryd.strings_CutPrefix (s p : ByteArray) (w : World) :
    Calls Tryd.prog 50 #[.string s, .string p] w fun e w' => e = .returned (.tuple #[.string ⟨(Lib.trimPrefix s.data.toList p.data.toList).toArray⟩, .bool (Lib.hasPrefix s.data.toList p.data.toList)]) ∧ w' = w := Any.strings_CutPrefix Tryd.lays103 s p w
def Tryd.lays104_ren : Go.Shelf.Ren := ⟨fun | 104 => 51 | 211 => 65 | 207 => 75 | n => n, fun | 9 => 9 | 4 => 4 | 24 => 69 | 3 => 3 | n => n, fun | n => n⟩
theorem Tryd.lays104 : Go.Proofs.Lays.n104 Tryd.prog Tryd.lays104_ren := {
  mixed := by kernel_rfl
  f104 := Tryd.func51.trans (congrArg some (by kernel_rfl))
  f207 := Tryd.func75.trans (congrArg some (by kernel_rfl))
  f211 := Tryd.func65.trans (congrArg some (by kernel_rfl))
  t3 := Tryd.underlying3
  a3 := Tryd.isAgg3
  z3 := Tryd.sizeOf3
  v3 := Tryd.zeroValue3
  t4 := Tryd.underlying4
  a4 := Tryd.isAgg4
  z4 := Tryd.sizeOf4
  v4 := Tryd.zeroValue4
  t9 := Tryd.underlying9
  a9 := Tryd.isAgg9
  z9 := Tryd.sizeOf9
  v9 := Tryd.zeroValue9
  t24 := Tryd.underlying69
  a24 := Tryd.isAgg69
  z24 := Tryd.sizeOf69
  v24 := Tryd.zeroValue69 }
open Go.RowKit in
theorem Tryd.strings_CutSuffix (s p : ByteArray) (w : World) (hs : s.size ≤ 9223372036854775807) :
    Calls Tryd.prog 51 #[.string s, .string p] w fun e w' => e = .returned (.tuple #[.string ⟨(Lib.trimSuffix s.data.toList p.data.toList).toArray⟩, .bool (Lib.hasSuffix s.data.toList p.data.toList)]) ∧ w' = w := Any.strings_CutSuffix Tryd.lays104 s p w hs
def Tryd.lays242_ren : Go.Shelf.Ren := ⟨fun | 242 => 67 | 278 => 77 | n => n, fun | 37 => 51 | 21 => 21 | 51 => 94 | 4 => 4 | 5 => 5 | 46 => 81 | n => n, fun | n => n⟩
theorem Tryd.lays242 : Go.Proofs.Lays.n242 Tryd.prog Tryd.lays242_ren := {
  mixed := by kernel_rfl
  f242 := Tryd.func67.trans (congrArg some (by kernel_rfl))
  f278 := Tryd.func77.trans (congrArg some (by kernel_rfl))
  t4 := Tryd.underlying4
  a4 := Tryd.isAgg4
  z4 := Tryd.sizeOf4
  v4 := Tryd.zeroValue4
  t5 := Tryd.underlying5
  a5 := Tryd.isAgg5
  z5 := Tryd.sizeOf5
  v5 := Tryd.zeroValue5
  t21 := Tryd.underlying21
  a21 := Tryd.isAgg21
  z21 := Tryd.sizeOf21
  v21 := Tryd.zeroValue21
  t37 := Tryd.underlying51
  a37 := Tryd.isAgg51
  z37 := Tryd.sizeOf51
  v37 := Tryd.zeroValue51
  t46 := Tryd.underlying81
  a46 := Tryd.isAgg81
  z46 := Tryd.sizeOf81
  v46 := Tryd.zeroValue81
  t51 := Tryd.underlying94
  a51 := Tryd.isAgg94
  z51 := Tryd.sizeOf94
  v51 := Tryd.zeroValue94 }
open Go.RowKit in
theorem Tryd.utf8_AppendRune_plain (B : Nat) (v : Value) (n : Nat) (xs : List Value) (r : Int) (hr0 : -2147483648 ≤ r) (hr1 : r ≤ 2147483647) (w : World) (hown : w.ownsRow B 5 1 v n xs) (hlen : n + 4 ≤ 140737488355328) (hBw : B ≤ w.heap.size) :
    Calls Tryd.prog 67 #[v, .int .i32 r] w fun e w' => ∃ v', e = .returned v' ∧ w'.ownsRow B 5 1 v' (n + (Lib.runeCells r).length) (xs ++ Lib.runeCells r) ∧ ∃ o, (w.alloc o).grownBy w' v.ownBlock := Any.utf8_AppendRune_plain Tryd.lays242 (by kernel_rfl) B v n xs r hr0 hr1 w hown hlen hBw
def Tryd.lays197_ren : Go.Shelf.Ren := ⟨fun | 197 => 53 | 260 => 68 | n => n, fun | 9 => 9 | 21 => 21 | 3 => 3 | 4 => 4 | 5 => 5 | 105 => 79 | 119 => 95 | 0 => 0 | 46 => 81 | 139 => 98 | 138 => 97 | n => n, fun | 3 => 0 | 4 => 1 | n => n⟩
theorem Tryd.lays197 : Go.Proofs.Lays.n197 Tryd.prog Tryd.lays197_ren := {
  mixed := by kernel_rfl
  f197 := Tryd.func53.trans (congrArg some (by kernel_rfl))
  f260 := Tryd.func68.trans (congrArg some (by kernel_rfl))
  t0 := Tryd.underlying0
  a0 := Tryd.isAgg0
  z0 := Tryd.sizeOf0
  v0 := Tryd.zeroValue0
  t3 := Tryd.underlying3
  a3 := Tryd.isAgg3
  z3 := Tryd.sizeOf3
  v3 := Tryd.zeroValue3
  t4 := Tryd.underlying4
  a4 := Tryd.isAgg4
  z4 := Tryd.sizeOf4
  v4 := Tryd.zeroValue4
  t5 := Tryd.underlying5
  a5 := Tryd.isAgg5
  z5 := Tryd.sizeOf5
  v5 := Tryd.zeroValue5
  t9 := Tryd.underlying9
  a9 := Tryd.isAgg9
  z9 := Tryd.sizeOf9
  v9 := Tryd.zeroValue9
  t21 := Tryd.underlying21
  a21 := Tryd.isAgg21
  z21 := Tryd.sizeOf21
  v21 := Tryd.zeroValue21
  t46 := Tryd.underlying81
  a46 := Tryd.isAgg81
  z46 := Tryd.sizeOf81
  v46 := Tryd.zeroValue81
  t105 := Tryd.underlying79
  a105 := Tryd.isAgg79
  z105 := Tryd.sizeOf79
  v105 := Tryd.zeroValue79
  t119 := Tryd.underlying95
  a119 := Tryd.isAgg95
  z119 := Tryd.sizeOf95
  t138 := Tryd.underlying97
  a138 := Tryd.isAgg97
  z138 := Tryd.sizeOf97
  v138 := Tryd.zeroValue97
  t139 := Tryd.underlying98
  a139 := Tryd.isAgg98
  z139 := Tryd.sizeOf98
  v139 := Tryd.zeroValue98
  g3 := by kernel_rfl
  g4 := by kernel_rfl }
open Go.RowKit Go.Lib in
theorem Tryd.utf8_DecodeRuneInString (s : ByteArray) (w : World) (hT : Lib.Utf8Tabs 0 1 w) :
    Calls Tryd.prog 53 #[.string s] w fun e w' => e = .returned (.tuple #[.int .i32 (Lib.decodeGo s).1, .int .i64 (Lib.decodeGo s).2]) ∧ Below w.heap.size w w' := Any.utf8_DecodeRuneInString Tryd.lays197 s w hT
end Go.Proofs.YtdchmmdndgbllaaDoor
