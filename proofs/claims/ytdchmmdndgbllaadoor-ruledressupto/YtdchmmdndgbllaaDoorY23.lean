import Derived.Test.YtdchmmdndgbllaaDoorY11
import Derived.Test.YtdchmmdndgbllaaDoorY17
import Derived.Shelf.Strings.Builder1
import Derived.Shelf.Small.Strs
import Derived.Shelf.Small.Wraps
import Derived.Shelf.Strings.BuilderF
import Derived.Shelf.Strings.BuilderK
import Derived.Shelf.Utf8.AppendRunePlain
import Derived.Shelf.Strings.Search1
import Derived.Shelf.Strings.Prefix
import Derived.Shelf.Unicode.DecodeSlow
import Derived.Shelf.Unicode.DecodeAny
import Derived.Test.YtdchmmdndgbllaaDoorProg
/- A slice of texts. -/
namespace Go.Proofs.YtdchmmdndgbllaaDoor
open Go.RowKit

def Strs (w : World) (a : Option Addr) (n : Nat) (l : List ByteArray) : Prop := l.length = n ∧ (0 < n → ∃ b off, a = some ⟨b, off, none⟩ ∧ ∀ (j : Nat) x, l[j]? = some x → w.cell? ⟨b, off + j, none⟩ = some (.string x))
theorem Strs.kept {w w' : World} {a : Option Addr} {n : Nat} {l : List ByteArray} (h : Strs w a n l) (hB : Below w.heap.size w w') : Strs w' a n l :=
  ⟨h.1, fun h0 => by
    obtain ⟨b, off, e, hc⟩ := h.2 h0
    exact ⟨b, off, e, fun j x hx => (hB.cell (p := ⟨b, off + j, none⟩) (World.block_lt_of_cell? w _ (hc j x hx))).trans (hc j x hx)⟩⟩
theorem strs_new (w : World) (l : List ByteArray) (t : TypeId) (n : Nat) (hn : l.length = n) : Strs (w.alloc (.cells (l.map Value.string).toArray t)) (some ⟨w.heap.size, 0, none⟩) n l :=
  ⟨hn, fun _ => ⟨w.heap.size, 0, rfl, fun j x hx => by
    have h := World.alloc_heap_new w (.cells (l.map Value.string).toArray t)
    simp only [World.cell?, h]
    show (l.map Value.string).toArray[0 + j]? = _
    simp [hx]⟩⟩
end Go.Proofs.YtdchmmdndgbllaaDoor

/- The walks of strings.Builder's WriteByte and WriteString, of a builder that the call itself has made. -/
namespace Go.Proofs.YtdchmmdndgbllaaDoor
open Go.RowKit

/-- the builder in block b, of a call that began at w0, holds these bytes -/
abbrev BldAt (B b : Nat) (l : List UInt8) (W : World) : Prop := Lib.IsBuilder 53 5 B b (cellsOf l) W

set_option maxRecDepth 100000 in
set_option maxHeartbeats 1000000 in
theorem copyCheck_any (B b : Nat) (l : List UInt8) (w : World) (h : BldAt B b l w) :
    Calls Tryd.prog 46 #[.pointer (some ⟨b, 0, none⟩)] w fun e w' => e = .returned (.tuple #[]) ∧ Lib.BuilderAt 53 5 B b (.pointer (some ⟨b, 0, none⟩)) (cellsOf l) w' ∧ Below B w w' := by
  have hsz : (Tryd.prog.info? 53).map (·.size) = some 2 := by kernel_rfl
  obtain ⟨j, hj, hjs⟩ := Option.map_eq_some_iff.1 hsz
  rcases h with h | h
  · have h0 := h.cell0
    have hsh := h.shape
    have hfz := h.frozen0
    have HB : Hid (Lib.BuilderAt 53 5 B b (.pointer none) (cellsOf l) w) := h
    clear h
    go_enter Tryd.func46, Tryd.ntmps46
    go_wp2
    rw [Lib.run_to_unsafe w ⟨b, 0, none⟩ Tryd.underlying50 Tryd.underlying85 hj (by rw [hjs]; decide) hsh (Nat.zero_lt_succ 1)]
    simp only [Result.andThen]
    rw [Oper.upon_value]
    go_wp2
    rw [run_callFunc_extern Tryd.func60 (by kernel_rfl) (by kernel_rfl) (by kernel_rfl) (e := Extern.AbiNoEscape.same) (by kernel_rfl)]
    rw [Lib.run_noEscape]
    simp only [Result.andThen]
    rw [Oper.upon_value]
    go_wp2
    rw [Lib.run_from_unsafe w ⟨b, 0, none⟩ Tryd.underlying85 Tryd.underlying50 hj hsh (by kernel_rfl)]
    simp only [Result.andThen]
    rw [Oper.upon_value]
    go_wp2
    go_end0
    exact ⟨rfl, HB.out.used _, (Below.refl B w).setCell (p := ⟨b, 0, none⟩) HB.out.1 _⟩
  · have h0 := h.cell0
    have HB : Hid (Lib.BuilderAt 53 5 B b (.pointer (some ⟨b, 0, none⟩)) (cellsOf l) w) := h
    clear h
    go_enter Tryd.func46, Tryd.ntmps46
    go_wp2
    rw [Lib.run_neq_ptr_same w _ Tryd.underlying50 hj]
    go_wp2
    go_end0
    exact ⟨rfl, HB.out, Below.refl B _⟩

theorem bld_block {B b : Nat} {p : Value} {l : List UInt8} {W : World} (h : Lib.BuilderAt 53 5 B b p (cellsOf l) W) :
    ∃ v, W.heap[b]? = some (.cells #[p, v] 53 (0, 0)) ∧ W.ownsRow B 5 1 v l.length (cellsOf l) ∧ v.ownBlock ≠ some b ∧ b < W.heap.size := by
  obtain ⟨_, v, hv, ho, hn⟩ := h
  exact ⟨v, hv, by rw [cellsOf_length] at ho; exact ho, hn, (Array.getElem?_eq_some_iff.1 hv).1⟩

theorem bld_put {B b : Nat} {v v' : Value} {l m : List UInt8} {w w2 : World} {n : Nat} (hBb : B ≤ b) (hb2 : w2.heap[b]? = some (.cells #[.pointer (some ⟨b, 0, none⟩), v] 53 (0, 0))) (hn : n = m.length) (ho : w2.ownsRow B 5 1 v' (l.length + n) (cellsOf l ++ cellsOf m)) (hB : Below B w w2) :
    w2.cell? ⟨b, 0, none⟩ = some (.pointer (some ⟨b, 0, none⟩)) ∧ w2.cell? ⟨b, 1, none⟩ = some v ∧ w2.frozen? ⟨b, 1, none⟩ = false ∧ Hid (BldAt B b (l ++ m) (w2.setCell ⟨b, 1, none⟩ v') ∧ Below B w (w2.setCell ⟨b, 1, none⟩ v')) :=
  ⟨by rw [Lib.cell_of_heap hb2]; rfl, by rw [Lib.cell_of_heap hb2]; rfl, Lib.frozen_of_heap hb2 1, .inr (Lib.BuilderAt.put hBb hb2 (by rw [cellsOf_length, List.length_append, cellsOf_append, ← hn]; exact ho) (by decide)), hB.setCell (p := ⟨b, 1, none⟩) hBb _⟩

set_option maxRecDepth 100000 in
set_option maxHeartbeats 2000000 in
theorem writeByte_any (B b : Nat) (l : List UInt8) (c : UInt8) (w : World) (h : BldAt B b l w) (hl : l.length + 1 ≤ 140737488355328) (hB : B ≤ w.heap.size) :
    Calls Tryd.prog 26 #[.pointer (some ⟨b, 0, none⟩), .int .u8 (c.toNat : Int)] w fun e w' => e = .returned .nilIface ∧ BldAt B b (l ++ [c]) w' ∧ Below B w w' := by
  go_enter Tryd.func26, Tryd.ntmps26
  go_wp2_with first
    | (go_at_call 46; refine (copyCheck_any B b l _ h).mono ?_; rintro e w1 ⟨rfl, h1, hb1⟩; have hBb := h1.1; obtain ⟨v, hbk, hown, hne, hlt⟩ := bld_block h1; have hw1 := hb1.size; have c0 : w1.cell? ⟨b, 0, none⟩ = some (.pointer (some ⟨b, 0, none⟩)) := (by rw [Lib.cell_of_heap hbk]; rfl); have c1 : w1.cell? ⟨b, 1, none⟩ = some v := (by rw [Lib.cell_of_heap hbk]; rfl))
    | (at_builtin; refine wpList_app _ B (by simp; omega) rfl _ _ rfl v l.length _ rfl (hown.alloc _) (some ⟨w1.heap.size, 0, none⟩) 1 1 [c] rfl (bytes_new w1 [c] _ rfl) (fun h => by cases h) (by omega) ?_; intro v' w2 hown2 hgr2 hat2; have hb2 := (hgr2.block b (by simp; omega) (fun e => hne e.symm)).trans ((Lib.alloc_old w1 _ b hlt).trans hbk); obtain ⟨d0, d1, f1, HF⟩ := bld_put hBb hb2 rfl hown2 ((hb1.alloc (by omega) _).grown hgr2 (by simp; omega) (fun k hk => (hown.lt k hk).1)); obtain ⟨ad, cp, rfl, _⟩ := row_shape hown2; clear hown2 hgr2 hat2 h1 hb1 hown hbk hb2)
  go_ret
  exact ⟨rfl, HF.out⟩

set_option maxRecDepth 100000 in
set_option maxHeartbeats 2000000 in
theorem writeString_any (B b : Nat) (l : List UInt8) (s : ByteArray) (w : World) (h : BldAt B b l w) (hl : l.length + s.size ≤ 140737488355328) (hB : B ≤ w.heap.size) :
    Calls Tryd.prog 25 #[.pointer (some ⟨b, 0, none⟩), .string s] w fun e w' => e = .returned (.tuple #[.int .i64 s.size, .nilIface]) ∧ BldAt B b (l ++ bs s) w' ∧ Below B w w' := by
  obtain ⟨i0, hi, hz0, hz1, hz2⟩ := info_parts Tryd.info5
  go_enter Tryd.func25, Tryd.ntmps25
  go_wp2_with first
    | (go_at_call 46; refine (copyCheck_any B b l _ h).mono ?_; rintro e w1 ⟨rfl, h1, hb1⟩; have hBb := h1.1; obtain ⟨v, hbk, hown, hne, hlt⟩ := bld_block h1; have hw1 := hb1.size; have c0 : w1.cell? ⟨b, 0, none⟩ = some (.pointer (some ⟨b, 0, none⟩)) := (by rw [Lib.cell_of_heap hbk]; rfl); have c1 : w1.cell? ⟨b, 1, none⟩ = some v := (by rw [Lib.cell_of_heap hbk]; rfl))
    | (at_builtin; refine Lib.wpList_append_own_string _ rfl _ _ 51 9 rfl B 5 i0 Tryd.underlying51 Tryd.underlying9 hi hz0 hz1 hz2 v l.length _ rfl hown s rfl (by unfold maxLen; omega) (by omega) (by omega) ?_; intro v' w2 hown2 hgr2 hat2; have hb2 := (hgr2.block b hlt (fun e => hne e.symm)).trans hbk; obtain ⟨d0, d1, f1, HF⟩ := bld_put hBb hb2 (bs_len s).symm hown2 (hb1.grown hgr2 (by omega) (fun k hk => (hown.lt k hk).1)); obtain ⟨ad, cp, rfl, _⟩ := row_shape hown2; clear hown2 hgr2 hat2 h1 hb1 hown hbk hb2)
  go_ret2
  exact ⟨rfl, HF.out⟩
end Go.Proofs.YtdchmmdndgbllaaDoor

/- The kit's contracts on functions of Go's library, laid at this translation by the kit's own command, in plain words. -/
namespace Go.Proofs.YtdchmmdndgbllaaDoor
open Go.Shelf
def Tryd.lays169_ren : Go.Shelf.Ren := ⟨fun | 169 => 27 | n => n, fun | 70 => 50 | 9 => 9 | 0 => 0 | 72 => 53 | 37 => 51 | 127 => 76 | 3 => 3 | 5 => 5 | n => n, fun | n => n⟩
theorem Tryd.lays169 : Go.Proofs.Lays.n169 Tryd.prog Tryd.lays169_ren := {
  mixed := by kernel_rfl
  f169 := Tryd.func27.trans (congrArg some (by kernel_rfl))
  t0 := Tryd.underlying0
  a0 := Tryd.isAgg0
  z0 := Tryd.sizeOf0
  v0 := Tryd.zeroValue0
  t3 := Tryd.underlying3
  a3 := Tryd.isAgg3
  z3 := Tryd.sizeOf3
  v3 := Tryd.zeroValue3
  t9 := Tryd.underlying9
  a9 := Tryd.isAgg9
  z9 := Tryd.sizeOf9
  v9 := Tryd.zeroValue9
  t37 := Tryd.underlying51
  a37 := Tryd.isAgg51
  z37 := Tryd.sizeOf51
  v37 := Tryd.zeroValue51
  t70 := Tryd.underlying50
  a70 := Tryd.isAgg50
  z70 := Tryd.sizeOf50
  v70 := Tryd.zeroValue50
  t72 := Tryd.underlying53
  a72 := Tryd.isAgg53
  z72 := Tryd.sizeOf53
  v72 := Tryd.zeroValue53
  t127 := Tryd.underlying76
  a127 := Tryd.isAgg76
  z127 := Tryd.sizeOf76
  v127 := Tryd.zeroValue76 }
theorem Tryd.Builder_Extra_169 : Builder.Extra Tryd.prog Tryd.lays169_ren := {
  sizeBuilder := by kernel_rfl
  liesBuilder := by kernel_rfl
  t5 := Tryd.underlying5
  a5 := Tryd.isAgg5
  z5 := Tryd.sizeOf5
  v5 := Tryd.zeroValue5
  infoByte := by kernel_rfl
  cellsByte := by kernel_rfl
  sizeByte := by kernel_rfl
  neB5 := by decide }
open Go.RowKit in
theorem Tryd.Builder_String_any (B b : Nat) (l : List UInt8) (w : World) (h : Lib.IsBuilder 53 5 B b (Lib.byteCells l) w) (hBw : B ≤ w.heap.size) :
    Calls Tryd.prog 27 #[.pointer (some ⟨b, 0, none⟩)] w fun e w' => e = .returned (.string ⟨l.toArray⟩) ∧ Below B w w' := Any.Builder_String_any Tryd.lays169 Tryd.Builder_Extra_169 B b l w h hBw
end Go.Proofs.YtdchmmdndgbllaaDoor
