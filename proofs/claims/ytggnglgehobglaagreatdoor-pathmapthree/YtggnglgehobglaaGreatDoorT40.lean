import Derived.Shelf.Strings.Builder1
import Derived.Shelf.Small.Bits
import Derived.Shelf.Small.Strs
import Derived.Shelf.Small.Wraps
import Derived.Shelf.Strings.BuilderF
import Derived.Shelf.Strings.BuilderK
import Derived.Shelf.Utf8.AppendRunePlain
import Derived.Shelf.Strconv.Itoa0
import Derived.Shelf.Strings.Search1
import Derived.Shelf.Strings.Prefix
import Derived.Shelf.Unicode.DecodeSlow
import Derived.Shelf.Unicode.DecodeAny
import Derived.Ground.SlsfProg
import Derived.Shelf.SlSortCmp.Insertion
import Derived.Shelf.SlSortCmp.SiftDown1
import Derived.Shelf.SlSortCmp.HeapSort1
import Derived.Shelf.SlSortCmp.Insertion1
import Derived.Shelf.SlSortCmp.Median1
import Derived.Shelf.SlSortCmp.Pivot1
import Derived.Shelf.SlSortCmp.ReverseRange1
import Derived.Shelf.SlSortCmp.PartialInsertion1
import Derived.Shelf.SlSortCmp.PartitionEqual1
import Derived.Shelf.SlSortCmp.Partition1
import Derived.Shelf.SlSortCmp.Pdq1
import Derived.Shelf.SlSortCmp.Whole1
import Derived.Test.YtggnglgehobglaaGreatDoorProg
import Derived.Test.YtggnglgehobglaaGreatDoorT01
import Derived.Outline
import Derived.Test.YtggnglgehobglaaGreatDoorT03
import Derived.Test.YtggnglgehobglaaGreatDoorT08
import Derived.Deep.RegionHeld3
import Derived.Laws.AppendOwnNone
import Derived.Maps.AppendAt
import Derived.Lib.AppendStr
import Derived.Lib.ConvBytes
/- The kit's contracts on functions of Go's library, laid at this translation by the kit's own command, in plain words. -/
namespace Go.Proofs.YtggnglgehobglaaGreatDoor
open Go.Shelf
def Tryz.lays137_ren : Go.Shelf.Ren := ⟨fun | 137 => 137 | 217 => 140 | 266 => 141 | n => n, fun | 9 => 9 | 5 => 5 | 3 => 3 | n => n, fun | n => n⟩
theorem Tryz.lays137 : Go.Proofs.Lays.n137 Tryz.prog Tryz.lays137_ren := {
  mixed := by kernel_rfl
  f137 := Tryz.func137.trans (congrArg some (by kernel_rfl))
  f217 := Tryz.func140.trans (congrArg some (by kernel_rfl))
  f266 := Tryz.func141.trans (congrArg some (by kernel_rfl))
  t3 := Tryz.underlying3
  a3 := Tryz.isAgg3
  z3 := Tryz.sizeOf3
  v3 := Tryz.zeroValue3
  t5 := Tryz.underlying5
  a5 := Tryz.isAgg5
  z5 := Tryz.sizeOf5
  v5 := Tryz.zeroValue5
  t9 := Tryz.underlying9
  a9 := Tryz.isAgg9
  z9 := Tryz.sizeOf9
  v9 := Tryz.zeroValue9 }
open Go.RowKit in
theorem Tryz.strings_IndexByte (s : ByteArray) (c : Int) (w : World) :
    Calls Tryz.prog 137 #[.string s, .int .u8 c] w fun e w' => e = .returned (.int .i64 (Lib.indexByte s.data.toList c.toNat.toUInt8)) ∧ w' = w := Any.strings_IndexByte Tryz.lays137 s c w
def Tryz.lays103_ren : Go.Shelf.Ren := ⟨fun | 103 => 63 | 210 => 85 | 206 => 84 | n => n, fun | 9 => 9 | 4 => 4 | 24 => 62 | 3 => 3 | n => n, fun | n => n⟩
theorem Tryz.lays103 : Go.Proofs.Lays.n103 Tryz.prog Tryz.lays103_ren := {
  mixed := by kernel_rfl
  f103 := Tryz.func63.trans (congrArg some (by kernel_rfl))
  f206 := Tryz.func84.trans (congrArg some (by kernel_rfl))
  f210 := Tryz.func85.trans (congrArg some (by kernel_rfl))
  t3 := Tryz.underlying3
  a3 := Tryz.isAgg3
  z3 := Tryz.sizeOf3
  v3 := Tryz.zeroValue3
  t4 := Tryz.underlying4
  a4 := Tryz.isAgg4
  z4 := Tryz.sizeOf4
  v4 := Tryz.zeroValue4
  t9 := Tryz.underlying9
  a9 := Tryz.isAgg9
  z9 := Tryz.sizeOf9
  v9 := Tryz.zeroValue9
  t24 := Tryz.underlying62
  a24 := Tryz.isAgg62
  z24 := Tryz.sizeOf62
  v24 := Tryz.zeroValue62 }
open Go.RowKit in
theorem Tryz.strings_CutPrefix (s p : ByteArray) (w : World) :
    Calls Tryz.prog 63 #[.string s, .string p] w fun e w' => e = .returned (.tuple #[.string ⟨(Lib.trimPrefix s.data.toList p.data.toList).toArray⟩, .bool (Lib.hasPrefix s.data.toList p.data.toList)]) ∧ w' = w := Any.strings_CutPrefix Tryz.lays103 s p w
def Tryz.lays104_ren : Go.Shelf.Ren := ⟨fun | 104 => 110 | 211 => 126 | 207 => 136 | n => n, fun | 9 => 9 | 4 => 4 | 24 => 62 | 3 => 3 | n => n, fun | n => n⟩
theorem Tryz.lays104 : Go.Proofs.Lays.n104 Tryz.prog Tryz.lays104_ren := {
  mixed := by kernel_rfl
  f104 := Tryz.func110.trans (congrArg some (by kernel_rfl))
  f207 := Tryz.func136.trans (congrArg some (by kernel_rfl))
  f211 := Tryz.func126.trans (congrArg some (by kernel_rfl))
  t3 := Tryz.underlying3
  a3 := Tryz.isAgg3
  z3 := Tryz.sizeOf3
  v3 := Tryz.zeroValue3
  t4 := Tryz.underlying4
  a4 := Tryz.isAgg4
  z4 := Tryz.sizeOf4
  v4 := Tryz.zeroValue4
  t9 := Tryz.underlying9
  a9 := Tryz.isAgg9
  z9 := Tryz.sizeOf9
  v9 := Tryz.zeroValue9
  t24 := Tryz.underlying62
  a24 := Tryz.isAgg62
  z24 := Tryz.sizeOf62
  v24 := Tryz.zeroValue62 }
open Go.RowKit in
theorem Tryz.strings_CutSuffix (s p : ByteArray) (w : World) (hs : s.size ≤ 9223372036854775807) :
    Calls Tryz.prog 110 #[.string s, .string p] w fun e w' => e = .returned (.tuple #[.string ⟨(Lib.trimSuffix s.data.toList p.data.toList).toArray⟩, .bool (Lib.hasSuffix s.data.toList p.data.toList)]) ∧ w' = w := Any.strings_CutSuffix Tryz.lays104 s p w hs
def Tryz.lays242_ren : Go.Shelf.Ren := ⟨fun | 242 => 128 | 278 => 138 | n => n, fun | 37 => 66 | 21 => 21 | 51 => 138 | 4 => 4 | 5 => 5 | 46 => 120 | n => n, fun | n => n⟩
theorem Tryz.lays242 : Go.Proofs.Lays.n242 Tryz.prog Tryz.lays242_ren := {
  mixed := by kernel_rfl
  f242 := Tryz.func128.trans (congrArg some (by kernel_rfl))
  f278 := Tryz.func138.trans (congrArg some (by kernel_rfl))
  t4 := Tryz.underlying4
  a4 := Tryz.isAgg4
  z4 := Tryz.sizeOf4
  v4 := Tryz.zeroValue4
  t5 := Tryz.underlying5
  a5 := Tryz.isAgg5
  z5 := Tryz.sizeOf5
  v5 := Tryz.zeroValue5
  t21 := Tryz.underlying21
  a21 := Tryz.isAgg21
  z21 := Tryz.sizeOf21
  v21 := Tryz.zeroValue21
  t37 := Tryz.underlying66
  a37 := Tryz.isAgg66
  z37 := Tryz.sizeOf66
  v37 := Tryz.zeroValue66
  t46 := Tryz.underlying120
  a46 := Tryz.isAgg120
  z46 := Tryz.sizeOf120
  v46 := Tryz.zeroValue120
  t51 := Tryz.underlying138
  a51 := Tryz.isAgg138
  z51 := Tryz.sizeOf138
  v51 := Tryz.zeroValue138 }
open Go.RowKit in
theorem Tryz.utf8_AppendRune_plain (B : Nat) (v : Value) (n : Nat) (xs : List Value) (r : Int) (hr0 : -2147483648 ≤ r) (hr1 : r ≤ 2147483647) (w : World) (hown : w.ownsRow B 5 1 v n xs) (hlen : n + 4 ≤ 140737488355328) (hBw : B ≤ w.heap.size) :
    Calls Tryz.prog 128 #[v, .int .i32 r] w fun e w' => ∃ v', e = .returned v' ∧ w'.ownsRow B 5 1 v' (n + (Lib.runeCells r).length) (xs ++ Lib.runeCells r) ∧ ∃ o, (w.alloc o).grownBy w' v.ownBlock := Any.utf8_AppendRune_plain Tryz.lays242 (by kernel_rfl) B v n xs r hr0 hr1 w hown hlen hBw
def Tryz.lays197_ren : Go.Shelf.Ren := ⟨fun | 197 => 125 | 260 => 135 | n => n, fun | 9 => 9 | 21 => 21 | 3 => 3 | 4 => 4 | 5 => 5 | 105 => 142 | 119 => 157 | 0 => 0 | 46 => 120 | 139 => 160 | 138 => 159 | n => n, fun | 3 => 0 | 4 => 1 | n => n⟩
theorem Tryz.lays197 : Go.Proofs.Lays.n197 Tryz.prog Tryz.lays197_ren := {
  mixed := by kernel_rfl
  f197 := Tryz.func125.trans (congrArg some (by kernel_rfl))
  f260 := Tryz.func135.trans (congrArg some (by kernel_rfl))
  t0 := Tryz.underlying0
  a0 := Tryz.isAgg0
  z0 := Tryz.sizeOf0
  v0 := Tryz.zeroValue0
  t3 := Tryz.underlying3
  a3 := Tryz.isAgg3
  z3 := Tryz.sizeOf3
  v3 := Tryz.zeroValue3
  t4 := Tryz.underlying4
  a4 := Tryz.isAgg4
  z4 := Tryz.sizeOf4
  v4 := Tryz.zeroValue4
  t5 := Tryz.underlying5
  a5 := Tryz.isAgg5
  z5 := Tryz.sizeOf5
  v5 := Tryz.zeroValue5
  t9 := Tryz.underlying9
  a9 := Tryz.isAgg9
  z9 := Tryz.sizeOf9
  v9 := Tryz.zeroValue9
  t21 := Tryz.underlying21
  a21 := Tryz.isAgg21
  z21 := Tryz.sizeOf21
  v21 := Tryz.zeroValue21
  t46 := Tryz.underlying120
  a46 := Tryz.isAgg120
  z46 := Tryz.sizeOf120
  v46 := Tryz.zeroValue120
  t105 := Tryz.underlying142
  a105 := Tryz.isAgg142
  z105 := Tryz.sizeOf142
  v105 := Tryz.zeroValue142
  t119 := Tryz.underlying157
  a119 := Tryz.isAgg157
  z119 := Tryz.sizeOf157
  t138 := Tryz.underlying159
  a138 := Tryz.isAgg159
  z138 := Tryz.sizeOf159
  v138 := Tryz.zeroValue159
  t139 := Tryz.underlying160
  a139 := Tryz.isAgg160
  z139 := Tryz.sizeOf160
  v139 := Tryz.zeroValue160
  g3 := by kernel_rfl
  g4 := by kernel_rfl }
open Go.RowKit Go.Lib in
theorem Tryz.utf8_DecodeRuneInString (s : ByteArray) (w : World) (hT : Lib.Utf8Tabs 0 1 w) :
    Calls Tryz.prog 125 #[.string s] w fun e w' => e = .returned (.tuple #[.int .i32 (Lib.decodeGo s).1, .int .i64 (Lib.decodeGo s).2]) ∧ Below w.heap.size w w' := Any.utf8_DecodeRuneInString Tryz.lays197 s w hT
end Go.Proofs.YtggnglgehobglaaGreatDoor

/- Bytes turned into a string; what the program says of a byte's type. -/
namespace Go.Proofs.YtggnglgehobglaaGreatDoor
open Go.RowKit

theorem Tryz.info5 : (Tryz.prog.info? 5).map (fun i => (i.zero, i.size, i.bytes)) = some (some (.int .u8 0), 1, 1) := by kernel_rfl

theorem fold_push (l : List UInt8) : ∀ acc : ByteArray, (l.map fun c => (c.toNat : Int)).foldl (fun r n => r.push (UInt8.ofNat n.toNat)) acc = ⟨acc.data ++ l.toArray⟩ := by
  induction l with
  | nil => intro acc; simp
  | cons c l ih =>
    intro acc
    rw [List.map_cons, List.foldl_cons, ih]
    congr 1
    simp [ByteArray.push]

theorem run_string (w : World) (a : Option Addr) (n cap : Nat) (l : List UInt8) (hb : Bytes w a n l) :
    (convert 66 9 (.slice a n cap)).run Tryz.prog w = .ok (.string ⟨l.toArray⟩) w := by
  rw [run_convert_bytes_string w 66 9 5 a n cap Tryz.underlying66 Tryz.underlying5 Tryz.underlying9]
  cases a with
  | none =>
    have h0 : n = 0 := by
      by_cases h : n = 0
      · exact h
      · obtain ⟨b, off, hx, _⟩ := hb.2 (by omega)
        cases hx
    have hl : l = [] := List.eq_nil_of_length_eq_zero (by rw [hb.1]; exact h0)
    subst hl
    simp [Conv.bytesToString, Sem.run_pure]
    rfl
  | some x =>
    have hld : (loadCells x n).run Tryz.prog w = .ok ((l.map fun c => (c.toNat : Int)).map (Value.int .u8)).toArray w := by
      have hrun := run_loadCells_list (P := Tryz.prog) w x (cellsOf l) (fun j v hj => ?_)
      · rw [cellsOf_length, hb.1] at hrun
        rw [hrun]
        simp [cellsOf]
      · have hjl : j < l.length := by have := (List.getElem?_eq_some_iff.1 hj).1; rw [cellsOf_length] at this; exact this
        have hl := hb.1
        obtain ⟨b, off, hx, hc⟩ := hb.2 (by omega)
        obtain rfl := Option.some.inj hx
        rw [cellsOf_get l j hjl] at hj
        rw [Addr.add_lit, hc j (by omega)]
        exact hj
    rw [run_bytesToString w x n cap _ hld, fold_push]
    simp

end Go.Proofs.YtggnglgehobglaaGreatDoor

/- Rows of bytes that a call puts together while it goes through the runes of a text: how append changes them. -/
namespace Go.Proofs.YtggnglgehobglaaGreatDoor
open Go.RowKit

theorem row_shape {w : World} {B n : Nat} {e : TypeId} {v : Value} {xs : List Value} (h : w.ownsRow B e 1 v n xs) : ∃ ad c, v = .slice ad n c ∧ n ≤ c ∧ (ad = none → n = 0 ∧ c = 0) := by
  rcases h.2 with ⟨rfl, rfl⟩ | ⟨g, cap, cur, rfl, _, _, hc, _⟩
  · exact ⟨none, 0, rfl, Nat.le_refl _, fun _ => ⟨rfl, rfl⟩⟩
  · exact ⟨_, _, rfl, hc, fun h => by cases h⟩

theorem row_bytes {w : World} {B n c : Nat} {ad : Option Addr} {l : List UInt8} (h : w.ownsRow B 5 1 (.slice ad n c) n (cellsOf l)) : Bytes w ad n l := by
  have hl : l.length = n := by have := h.1; rw [cellsOf_length] at this; omega
  rcases h.2 with ⟨hv, hn⟩ | ⟨g, cap, cur, hv, _, hg, hc, _, _, ht⟩
  · exact ⟨hl, fun h0 => by omega⟩
  · cases hv
    refine ⟨hl, fun _ => ⟨g, 0, rfl, fun j hj => ?_⟩⟩
    have e : (cur.toList.take (n * 1))[j]? = some (.int .u8 (bt l j)) := by rw [ht]; exact cellsOf_get l j (by omega)
    rw [List.getElem?_take_of_lt (by omega)] at e
    simp only [World.cell?, hg]
    show cur[0 + j]? = _
    rw [Nat.zero_add, ← Array.getElem?_toList]; exact e

theorem row_block {W : World} {base n : Nat} {e : TypeId} {v : Value} {xs : List Value} (h : W.ownsRow base e 1 v n xs) : ∀ r, v.ownBlock = some r → base ≤ r ∧ r < W.heap.size ∧ ∃ cur, W.heap[r]? = some (.cells cur e (0, 0)) := by
  intro r hr
  rcases h.2 with ⟨rfl, _⟩ | ⟨g, cap, cur, rfl, hb, hg, _⟩
  · cases hr
  · cases hr
    exact ⟨hb, (Array.getElem?_eq_some_iff.1 hg).1, cur, hg⟩

/-- append of bytes to a row that is owned: what it is, and where it lies -/
theorem run_app (w : World) (B : Nat) (hB : B ≤ w.heap.size) (ty : TypeId) (v : Value) (n : Nat) (xs : List Value) (hown : w.ownsRow B 5 1 v n xs) (ad : Option Addr) (m c : Nat) (l : List UInt8) (hb : Bytes w ad m l) (hnil : ad = none → m = 0 ∧ c = 0) (hm : n + m ≤ 140737488355328) :
    ∃ v' w', (Builtin.append_ #[66, 66] ty #[v, .slice ad m c]).run Tryz.prog w = .ok v' w' ∧ w'.ownsRow B 5 1 v' (n + m) (xs ++ cellsOf l) ∧ w.grownBy w' v.ownBlock ∧ (v'.ownBlock = v.ownBlock ∨ v'.ownBlock = some w.heap.size) := by
  obtain ⟨i0, hi, hz0, hz1, hz2⟩ := info_parts Tryz.info5
  cases ad with
  | none =>
    obtain ⟨rfl, rfl⟩ := hnil rfl
    have hl : l = [] := List.eq_nil_of_length_eq_zero hb.1
    subst hl
    exact ⟨v, w, run_append_owned_none (P := Tryz.prog) (w := w) B 66 ty 5 i0 1 Tryz.underlying66 hi v n xs hown, by simpa [cellsOf] using hown, ⟨rfl, rfl, rfl, Nat.le_refl _, fun _ _ _ => rfl⟩, .inl rfl⟩
  | some ad =>
    obtain ⟨v', w', h1, h2, h3, _, h5⟩ := run_append_own_at (P := Tryz.prog) w B 66 ty 5 i0 (.int .u8 0) 1 1 Tryz.underlying66 hi hz0 hz1 hz2 rfl (by omega) v n xs hown ad m c (cellsOf l) (by rw [cellsOf_length, hb.1]; omega) (by
      intro j u hj
      have hjl : j < l.length := by have := (List.getElem?_eq_some_iff.1 hj).1; rw [cellsOf_length] at this; exact this
      have hl := hb.1
      obtain ⟨b, off, hx', hc⟩ := hb.2 (by omega)
      obtain rfl := Option.some.inj hx'
      rw [cellsOf_get l j hjl] at hj
      rw [Addr.add_lit, hc j (by omega)]
      exact hj) (cellsOf_one l) (by unfold maxLen; omega) (by omega) hB
    exact ⟨v', w', h1, h2, h3, h5⟩

theorem wp_app (w : World) (B : Nat) (hB : B ≤ w.heap.size) {o : Oper} {a : Act} {K : Act → World → Prop} {Q : Exit → Act → World → Prop} (s x : Operand)
    (ho : o.op = .call { callee := .builtin .append, args := #[s, x], argTypes := #[66, 66] })
    (v : Value) (n : Nat) (xs : List Value) (hs : a.eval s = v) (hown : w.ownsRow B 5 1 v n xs) (ad : Option Addr) (m c : Nat) (l : List UInt8) (hx : a.eval x = .slice ad m c) (hb : Bytes w ad m l) (hnil : ad = none → m = 0 ∧ c = 0) (hm : n + m ≤ 140737488355328)
    (h : ∀ v' w', w'.ownsRow B 5 1 v' (n + m) (xs ++ cellsOf l) → w.grownBy w' v.ownBlock → (v'.ownBlock = v.ownBlock ∨ v'.ownBlock = some w.heap.size) → K (a.put o.dst v') w') : o.wp Tryz.prog a w K Q := by
  obtain ⟨v', w', hr, h2, h3, h4⟩ := run_app w B hB o.type v n xs hown ad m c l hb hnil hm
  unfold Oper.wp execOp
  simp only [ho, resolve, invoke, builtin, Sem.run_bind, Sem.run_pure, Result.andThen_ok, List.map_toArray, List.map_cons, List.map_nil, hs, hx, hr]
  exact h v' w' h2 h3 h4

theorem wpList_app (w : World) (B : Nat) (hB : B ≤ w.heap.size) {ops : Array Oper} {rest : List Oper} {o : Oper} {a : Act} {Q : Exit → Act → World → Prop} (hgd : o.guard = none) (s x : Operand)
    (ho : o.op = .call { callee := .builtin .append, args := #[s, x], argTypes := #[66, 66] })
    (v : Value) (n : Nat) (xs : List Value) (hs : a.eval s = v) (hown : w.ownsRow B 5 1 v n xs) (ad : Option Addr) (m c : Nat) (l : List UInt8) (hx : a.eval x = .slice ad m c) (hb : Bytes w ad m l) (hnil : ad = none → m = 0 ∧ c = 0) (hm : n + m ≤ 140737488355328)
    (h : ∀ v' w', w'.ownsRow B 5 1 v' (n + m) (xs ++ cellsOf l) → w.grownBy w' v.ownBlock → (v'.ownBlock = v.ownBlock ∨ v'.ownBlock = some w.heap.size) → wpList Tryz.prog ops Q rest (a.put o.dst v') w') : wpList Tryz.prog ops Q (o :: rest) a w :=
  wpList_plain hgd fun _ hK => wp_app w B hB s x ho v n xs hs hown ad m c l hx hb hnil hm fun v' w' h2 h3 h4 => hK _ _ (h v' w' h2 h3 h4)

theorem step_app (w : World) (B : Nat) (hB : B ≤ w.heap.size) {ops : Array Oper} {o : Oper} {a : Act} {K : Act → World → Prop} {Q : Exit → Act → World → Prop} {E : Prop} (hgd : o.guard = none) (s x : Operand)
    (ho : o.op = .call { callee := .builtin .append, args := #[s, x], argTypes := #[66, 66] })
    (v : Value) (n : Nat) (xs : List Value) (hs : a.eval s = v) (hown : w.ownsRow B 5 1 v n xs) (ad : Option Addr) (m c : Nat) (l : List UInt8) (hx : a.eval x = .slice ad m c) (hb : Bytes w ad m l) (hnil : ad = none → m = 0 ∧ c = 0) (hm : n + m ≤ 140737488355328)
    (h : ∀ v' w', w'.ownsRow B 5 1 v' (n + m) (xs ++ cellsOf l) → w.grownBy w' v.ownBlock → (v'.ownBlock = v.ownBlock ∨ v'.ownBlock = some w.heap.size) → K (a.put o.dst v') w') :
    if Region.wanted o (yielded ops a.tmps) = true then Oper.wp Tryz.prog o a w K Q else E := by
  have hw : Region.wanted o (yielded ops a.tmps) = true := by simp [Region.wanted, hgd]
  rw [if_pos hw]
  exact wp_app w B hB s x ho v n xs hs hown ad m c l hx hb hnil hm h

/-- bytes just laid -/
theorem bytes_new (w : World) (l : List UInt8) (cs : Array Value) (h : cs = (cellsOf l).toArray) : Bytes (w.alloc (.cells cs 5)) (some ⟨w.heap.size, 0, none⟩) l.length l := by
  subst h
  refine ⟨rfl, fun _ => ⟨_, _, rfl, fun j hj => ?_⟩⟩
  simp only [World.cell?, World.alloc_heap_new]
  show (cellsOf l).toArray[0 + j]? = _
  rw [Nat.zero_add, List.getElem?_toArray]
  exact cellsOf_get l j hj

/-- a row that a call puts together, and the walk through the runes of a text beside it -/
structure Row (w0 : World) (it : Nat) (o : Obj) (v : Value) (l : List UInt8) (W : World) : Prop where
  row : W.ownsRow w0.heap.size 5 1 v l.length (cellsOf l)
  iter : W.heap[it]? = some o
  obj : ∀ cs t f, o ≠ .cells cs t f
  bel : Below w0.heap.size w0 W
  le : w0.heap.size ≤ it

theorem Row.lt {w0 W : World} {it : Nat} {o : Obj} {v : Value} {l : List UInt8} (h : Row w0 it o v l W) : it < W.heap.size := (Array.getElem?_eq_some_iff.1 h.iter).1
theorem Row.ne {w0 W : World} {it : Nat} {o : Obj} {v : Value} {l : List UInt8} (h : Row w0 it o v l W) : v.ownBlock ≠ some it := fun e => by
  obtain ⟨_, _, cur, hc⟩ := row_block h.row it e
  rw [h.iter] at hc; cases hc
  exact h.obj _ _ _ rfl
theorem Row.size {w0 W : World} {it : Nat} {o : Obj} {v : Value} {l : List UInt8} (h : Row w0 it o v l W) : w0.heap.size ≤ W.heap.size := h.bel.size
theorem Row.below {w0 W W' : World} {it : Nat} {o : Obj} {v : Value} {l : List UInt8} (h : Row w0 it o v l W) (hb : Below W.heap.size W W') : Row w0 it o v l W' := by
  refine ⟨h.row.kept (row := none) ⟨hb.os, hb.tape, hb.output, hb.size, fun k hk _ => hb.block k hk⟩ (by cases v.ownBlock <;> simp), (hb.block it h.lt).trans h.iter, h.obj, h.bel.trans (hb.mono h.bel.size), h.le⟩
theorem Row.drew {w0 W : World} {it : Nat} {o : Obj} {v : Value} {l : List UInt8} (h : Row w0 it o v l W) : Row w0 it o v l W.drew :=
  ⟨h.row, h.iter, h.obj, ⟨h.bel.os, h.bel.tape, h.bel.output, h.bel.size, h.bel.block⟩, h.le⟩
theorem Row.alloc {w0 W : World} {it : Nat} {o : Obj} {v : Value} {l : List UInt8} (h : Row w0 it o v l W) (b : Obj) : Row w0 it o v l (W.alloc b) := h.below ((Below.refl _ _).alloc (Nat.le_refl _) _)
theorem Row.grown {w0 W W' : World} {it : Nat} {o : Obj} {v v' : Value} {l m : List UInt8} {n : Nat} (h : Row w0 it o v l W) (hg : W.grownBy W' v.ownBlock) (hn : n = m.length) (hr : W'.ownsRow w0.heap.size 5 1 v' (l.length + n) (cellsOf l ++ cellsOf m)) : Row w0 it o v' (l ++ m) W' := by
  refine ⟨?_, (hg.block it h.lt (fun e => h.ne e.symm)).trans h.iter, h.obj, ?_, h.le⟩
  · rw [List.length_append, cellsOf_append, ← hn]; exact hr
  · exact h.bel.grown hg h.bel.size (fun k hk => (row_block h.row k hk).1)
theorem Row.put {w0 W : World} {it : Nat} {o : Obj} {v : Value} {l : List UInt8} (h : Row w0 it o v l W) (o' : Obj) (ho : ∀ cs t f, o' ≠ .cells cs t f) : Row w0 it o' v l (W.putObj it o') := by
  refine ⟨h.row.kept (grownBy_putObj' W it o') (.inr h.ne), ?_, ho, ?_, h.le⟩
  · simp [World.putObj, h.lt]
  · exact h.bel.grown (grownBy_putObj' W it o') h.bel.size (fun k hk => by cases hk; exact h.le)

/-- the rune at a place of a text -/
theorem rune_at (s : ByteArray) (p : Nat) (hp : p < s.size) : ∃ r d : Nat, Utf8.decode s p = (r, d) ∧ dec ((bs s).drop p) = (r, d) ∧ 1 ≤ d ∧ p + d ≤ s.size ∧ r ≤ 2147483647 ∧ (bs s).drop p ≠ [] ∧ bs (s.extract p s.size) = (bs s).drop p ∧ bs (s.extract p (p + d)) = ((bs s).drop p).take d := by
  have hne : (bs s).drop p ≠ [] := fun e => by
    have := congrArg List.length e
    rw [List.length_drop, bs_len] at this; simp at this; omega
  refine ⟨(dec ((bs s).drop p)).1, (dec ((bs s).drop p)).2, by rw [decode_dec]; rfl, rfl, dec_pos _, ?_, ?_, hne, ?_, ?_⟩
  · have := dec_le _ hne
    rw [List.length_drop, bs_len] at this; omega
  · have := decode_le s p
    rw [decode_dec] at this; exact this
  · rw [bs_extract, show (bs s).take s.size = bs s by rw [← bs_len]; exact List.take_length]
  · rw [bs_extract, List.drop_take]; congr 1; omega
end Go.Proofs.YtggnglgehobglaaGreatDoor
