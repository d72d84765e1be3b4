import Derived.Test.YtggnglgehobglaaGreatDoorP03
import Derived.Test.YtggnglgehobglaaGreatDoorP36
import Derived.Shelf.Strings.Builder1
import Derived.Shelf.Small.Bits
import Derived.Shelf.Small.Strs
import Derived.Shelf.Small.Wraps
import Derived.Shelf.Strings.BuilderF
import Derived.Shelf.Strings.BuilderK
import Derived.Shelf.Utf8.AppendRunePlain
import Derived.Shelf.Strconv.Itoa0
import Derived.Shelf.Strings.Search1
import Derived.Shelf.Strings.Prefix
import Derived.Shelf.Unicode.DecodeSlow
import Derived.Shelf.Unicode.DecodeAny
import Derived.Ground.SlsfProg
import Derived.Shelf.SlSortCmp.Insertion
import Derived.Shelf.SlSortCmp.SiftDown1
import Derived.Shelf.SlSortCmp.HeapSort1
import Derived.Shelf.SlSortCmp.Insertion1
import Derived.Shelf.SlSortCmp.Median1
import Derived.Shelf.SlSortCmp.Pivot1
import Derived.Shelf.SlSortCmp.ReverseRange1
import Derived.Shelf.SlSortCmp.PartialInsertion1
import Derived.Shelf.SlSortCmp.PartitionEqual1
import Derived.Shelf.SlSortCmp.Partition1
import Derived.Shelf.SlSortCmp.Pdq1
import Derived.Shelf.SlSortCmp.Whole1
import Derived.Test.YtggnglgehobglaaGreatDoorProg
import Derived.Test.YtggnglgehobglaaGreatDoorP39
import Derived.Test.YtggnglgehobglaaGreatDoorP08
import Derived.Test.YtggnglgehobglaaGreatDoorP10
import Derived.Test.YtggnglgehobglaaGreatDoorP15
/- A slice of texts. -/
namespace Go.Proofs.YtggnglgehobglaaGreatDoor
open Go.RowKit

def Strs (w : World) (a : Option Addr) (n : Nat) (l : List ByteArray) : Prop := l.length = n ∧ (0 < n → ∃ b off, a = some ⟨b, off, none⟩ ∧ ∀ (j : Nat) x, l[j]? = some x → w.cell? ⟨b, off + j, none⟩ = some (.string x))
theorem Strs.kept {w w' : World} {a : Option Addr} {n : Nat} {l : List ByteArray} (h : Strs w a n l) (hB : Below w.heap.size w w') : Strs w' a n l :=
  ⟨h.1, fun h0 => by
    obtain ⟨b, off, e, hc⟩ := h.2 h0
    exact ⟨b, off, e, fun j x hx => (hB.cell (p := ⟨b, off + j, none⟩) (World.block_lt_of_cell? w _ (hc j x hx))).trans (hc j x hx)⟩⟩
theorem strs_new (w : World) (l : List ByteArray) (t : TypeId) (n : Nat) (hn : l.length = n) : Strs (w.alloc (.cells (l.map Value.string).toArray t)) (some ⟨w.heap.size, 0, none⟩) n l :=
  ⟨hn, fun _ => ⟨w.heap.size, 0, rfl, fun j x hx => by
    have h := World.alloc_heap_new w (.cells (l.map Value.string).toArray t)
    simp only [World.cell?, h]
    show (l.map Value.string).toArray[0 + j]? = _
    simp [hx]⟩⟩
end Go.Proofs.YtggnglgehobglaaGreatDoor

/- The walks of strings.Builder's WriteByte and WriteString, of a builder that the call itself has made. -/
namespace Go.Proofs.YtggnglgehobglaaGreatDoor
open Go.RowKit

/-- the builder in block b, of a call that began at w0, holds these bytes -/
abbrev BldAt (B b : Nat) (l : List UInt8) (W : World) : Prop := Lib.IsBuilder 91 5 B b (cellsOf l) W

set_option maxRecDepth 100000 in
set_option maxHeartbeats 1000000 in
theorem copyCheck_any (B b : Nat) (l : List UInt8) (w : World) (h : BldAt B b l w) :
    Calls Tryz.prog 82 #[.pointer (some ⟨b, 0, none⟩)] w fun e w' => e = .returned (.tuple #[]) ∧ Lib.BuilderAt 91 5 B b (.pointer (some ⟨b, 0, none⟩)) (cellsOf l) w' ∧ Below B w w' := by
  have hsz : (Tryz.prog.info? 91).map (·.size) = some 2 := by kernel_rfl
  obtain ⟨j, hj, hjs⟩ := Option.map_eq_some_iff.1 hsz
  rcases h with h | h
  · have h0 := h.cell0
    have hsh := h.shape
    have hfz := h.frozen0
    have HB : Hid (Lib.BuilderAt 91 5 B b (.pointer none) (cellsOf l) w) := h
    clear h
    go_enter Tryz.func82, Tryz.ntmps82
    go_wp2
    rw [Lib.run_to_unsafe w ⟨b, 0, none⟩ Tryz.underlying89 Tryz.underlying125 hj (by rw [hjs]; decide) hsh (Nat.zero_lt_succ 1)]
    simp only [Result.andThen]
    rw [Oper.upon_value]
    go_wp2
    rw [run_callFunc_extern Tryz.func106 (by kernel_rfl) (by kernel_rfl) (by kernel_rfl) (e := Extern.AbiNoEscape.same) (by kernel_rfl)]
    rw [Lib.run_noEscape]
    simp only [Result.andThen]
    rw [Oper.upon_value]
    go_wp2
    rw [Lib.run_from_unsafe w ⟨b, 0, none⟩ Tryz.underlying125 Tryz.underlying89 hj hsh (by kernel_rfl)]
    simp only [Result.andThen]
    rw [Oper.upon_value]
    go_wp2
    go_end0
    exact ⟨rfl, HB.out.used _, (Below.refl B w).setCell (p := ⟨b, 0, none⟩) HB.out.1 _⟩
  · have h0 := h.cell0
    have HB : Hid (Lib.BuilderAt 91 5 B b (.pointer (some ⟨b, 0, none⟩)) (cellsOf l) w) := h
    clear h
    go_enter Tryz.func82, Tryz.ntmps82
    go_wp2
    rw [Lib.run_neq_ptr_same w _ Tryz.underlying89 hj]
    go_wp2
    go_end0
    exact ⟨rfl, HB.out, Below.refl B _⟩

theorem bld_block {B b : Nat} {p : Value} {l : List UInt8} {W : World} (h : Lib.BuilderAt 91 5 B b p (cellsOf l) W) :
    ∃ v, W.heap[b]? = some (.cells #[p, v] 91 (0, 0)) ∧ W.ownsRow B 5 1 v l.length (cellsOf l) ∧ v.ownBlock ≠ some b ∧ b < W.heap.size := by
  obtain ⟨_, v, hv, ho, hn⟩ := h
  exact ⟨v, hv, by rw [cellsOf_length] at ho; exact ho, hn, (Array.getElem?_eq_some_iff.1 hv).1⟩

theorem bld_put {B b : Nat} {v v' : Value} {l m : List UInt8} {w w2 : World} {n : Nat} (hBb : B ≤ b) (hb2 : w2.heap[b]? = some (.cells #[.pointer (some ⟨b, 0, none⟩), v] 91 (0, 0))) (hn : n = m.length) (ho : w2.ownsRow B 5 1 v' (l.length + n) (cellsOf l ++ cellsOf m)) (hB : Below B w w2) :
    w2.cell? ⟨b, 0, none⟩ = some (.pointer (some ⟨b, 0, none⟩)) ∧ w2.cell? ⟨b, 1, none⟩ = some v ∧ w2.frozen? ⟨b, 1, none⟩ = false ∧ Hid (BldAt B b (l ++ m) (w2.setCell ⟨b, 1, none⟩ v') ∧ Below B w (w2.setCell ⟨b, 1, none⟩ v')) :=
  ⟨by rw [Lib.cell_of_heap hb2]; rfl, by rw [Lib.cell_of_heap hb2]; rfl, Lib.frozen_of_heap hb2 1, .inr (Lib.BuilderAt.put hBb hb2 (by rw [cellsOf_length, List.length_append, cellsOf_append, ← hn]; exact ho) (by decide)), hB.setCell (p := ⟨b, 1, none⟩) hBb _⟩

set_option maxRecDepth 100000 in
set_option maxHeartbeats 2000000 in
theorem writeByte_any (B b : Nat) (l : List UInt8) (c : UInt8) (w : World) (h : BldAt B b l w) (hl : l.length + 1 ≤ 140737488355328) (hB : B ≤ w.heap.size) :
    Calls Tryz.prog 59 #[.pointer (some ⟨b, 0, none⟩), .int .u8 (c.toNat : Int)] w fun e w' => e = .returned .nilIface ∧ BldAt B b (l ++ [c]) w' ∧ Below B w w' := by
  go_enter Tryz.func59, Tryz.ntmps59
  go_wp2_with first
    | (go_at_call 82; refine (copyCheck_any B b l _ h).mono ?_; rintro e w1 ⟨rfl, h1, hb1⟩; have hBb := h1.1; obtain ⟨v, hbk, hown, hne, hlt⟩ := bld_block h1; have hw1 := hb1.size; have c0 : w1.cell? ⟨b, 0, none⟩ = some (.pointer (some ⟨b, 0, none⟩)) := (by rw [Lib.cell_of_heap hbk]; rfl); have c1 : w1.cell? ⟨b, 1, none⟩ = some v := (by rw [Lib.cell_of_heap hbk]; rfl))
    | (at_builtin; refine wpList_app _ B (by simp; omega) rfl _ _ rfl v l.length _ rfl (hown.alloc _) (some ⟨w1.heap.size, 0, none⟩) 1 1 [c] rfl (bytes_new w1 [c] _ rfl) (fun h => by cases h) (by omega) ?_; intro v' w2 hown2 hgr2 hat2; have hb2 := (hgr2.block b (by simp; omega) (fun e => hne e.symm)).trans ((Lib.alloc_old w1 _ b hlt).trans hbk); obtain ⟨d0, d1, f1, HF⟩ := bld_put hBb hb2 rfl hown2 ((hb1.alloc (by omega) _).grown hgr2 (by simp; omega) (fun k hk => (hown.lt k hk).1)); obtain ⟨ad, cp, rfl, _⟩ := row_shape hown2; clear hown2 hgr2 hat2 h1 hb1 hown hbk hb2)
  go_ret
  exact ⟨rfl, HF.out⟩

set_option maxRecDepth 100000 in
set_option maxHeartbeats 2000000 in
theorem writeString_any (B b : Nat) (l : List UInt8) (s : ByteArray) (w : World) (h : BldAt B b l w) (hl : l.length + s.size ≤ 140737488355328) (hB : B ≤ w.heap.size) :
    Calls Tryz.prog 58 #[.pointer (some ⟨b, 0, none⟩), .string s] w fun e w' => e = .returned (.tuple #[.int .i64 s.size, .nilIface]) ∧ BldAt B b (l ++ bs s) w' ∧ Below B w w' := by
  obtain ⟨i0, hi, hz0, hz1, hz2⟩ := info_parts Tryz.info5
  go_enter Tryz.func58, Tryz.ntmps58
  go_wp2_with first
    | (go_at_call 82; refine (copyCheck_any B b l _ h).mono ?_; rintro e w1 ⟨rfl, h1, hb1⟩; have hBb := h1.1; obtain ⟨v, hbk, hown, hne, hlt⟩ := bld_block h1; have hw1 := hb1.size; have c0 : w1.cell? ⟨b, 0, none⟩ = some (.pointer (some ⟨b, 0, none⟩)) := (by rw [Lib.cell_of_heap hbk]; rfl); have c1 : w1.cell? ⟨b, 1, none⟩ = some v := (by rw [Lib.cell_of_heap hbk]; rfl))
    | (at_builtin; refine Lib.wpList_append_own_string _ rfl _ _ 66 9 rfl B 5 i0 Tryz.underlying66 Tryz.underlying9 hi hz0 hz1 hz2 v l.length _ rfl hown s rfl (by unfold maxLen; omega) (by omega) (by omega) ?_; intro v' w2 hown2 hgr2 hat2; have hb2 := (hgr2.block b hlt (fun e => hne e.symm)).trans hbk; obtain ⟨d0, d1, f1, HF⟩ := bld_put hBb hb2 (bs_len s).symm hown2 (hb1.grown hgr2 (by omega) (fun k hk => (hown.lt k hk).1)); obtain ⟨ad, cp, rfl, _⟩ := row_shape hown2; clear hown2 hgr2 hat2 h1 hb1 hown hbk hb2)
  go_ret2
  exact ⟨rfl, HF.out⟩
end Go.Proofs.YtggnglgehobglaaGreatDoor

/- The kit's contracts on functions of Go's library, laid at this translation by the kit's own command, in plain words. -/
namespace Go.Proofs.YtggnglgehobglaaGreatDoor
open Go.Shelf
def Tryz.lays169_ren : Go.Shelf.Ren := ⟨fun | 169 => 60 | n => n, fun | 70 => 89 | 9 => 9 | 0 => 0 | 72 => 91 | 37 => 66 | 127 => 111 | 3 => 3 | 5 => 5 | n => n, fun | n => n⟩
theorem Tryz.lays169 : Go.Proofs.Lays.n169 Tryz.prog Tryz.lays169_ren := {
  mixed := by kernel_rfl
  f169 := Tryz.func60.trans (congrArg some (by kernel_rfl))
  t0 := Tryz.underlying0
  a0 := Tryz.isAgg0
  z0 := Tryz.sizeOf0
  v0 := Tryz.zeroValue0
  t3 := Tryz.underlying3
  a3 := Tryz.isAgg3
  z3 := Tryz.sizeOf3
  v3 := Tryz.zeroValue3
  t9 := Tryz.underlying9
  a9 := Tryz.isAgg9
  z9 := Tryz.sizeOf9
  v9 := Tryz.zeroValue9
  t37 := Tryz.underlying66
  a37 := Tryz.isAgg66
  z37 := Tryz.sizeOf66
  v37 := Tryz.zeroValue66
  t70 := Tryz.underlying89
  a70 := Tryz.isAgg89
  z70 := Tryz.sizeOf89
  v70 := Tryz.zeroValue89
  t72 := Tryz.underlying91
  a72 := Tryz.isAgg91
  z72 := Tryz.sizeOf91
  v72 := Tryz.zeroValue91
  t127 := Tryz.underlying111
  a127 := Tryz.isAgg111
  z127 := Tryz.sizeOf111
  v127 := Tryz.zeroValue111 }
theorem Tryz.Builder_Extra_169 : Builder.Extra Tryz.prog Tryz.lays169_ren := {
  sizeBuilder := by kernel_rfl
  liesBuilder := by kernel_rfl
  t5 := Tryz.underlying5
  a5 := Tryz.isAgg5
  z5 := Tryz.sizeOf5
  v5 := Tryz.zeroValue5
  infoByte := by kernel_rfl
  cellsByte := by kernel_rfl
  sizeByte := by kernel_rfl
  neB5 := by decide }
open Go.RowKit in
theorem Tryz.Builder_String_any (B b : Nat) (l : List UInt8) (w : World) (h : Lib.IsBuilder 91 5 B b (Lib.byteCells l) w) (hBw : B ≤ w.heap.size) :
    Calls Tryz.prog 60 #[.pointer (some ⟨b, 0, none⟩)] w fun e w' => e = .returned (.string ⟨l.toArray⟩) ∧ Below B w w' := Any.Builder_String_any Tryz.lays169 Tryz.Builder_Extra_169 B b l w h hBw
end Go.Proofs.YtggnglgehobglaaGreatDoor

/- The walks of Word and Line, and of the law's same. -/
namespace Go.Proofs.YtggnglgehobglaaGreatDoor
open Go.RowKit

/-- a slice of texts -/
theorem wrow_strs {w : World} {base : Nat} {v : Value} {ws : List (List UInt8)} (h : w.ownsRow base 9 1 v ws.length (wcells ws)) : ∃ a c, v = .slice a ws.length c ∧ ws.length ≤ c ∧ Strs w a ws.length (ws.map mk) := by
  rcases h.2 with ⟨rfl, h0⟩ | ⟨g, cap, cur, rfl, _, hg, hc, _, _, ht⟩
  · rw [h0]
    have : ws = [] := List.eq_nil_of_length_eq_zero h0
    subst this
    exact ⟨none, 0, rfl, Nat.le_refl _, rfl, fun h => by cases h⟩
  · refine ⟨_, cap, rfl, hc, by simp, fun _ => ⟨g, 0, rfl, fun j x hx => ?_⟩⟩
    have hj : j < ws.length := by have := (List.getElem?_eq_some_iff.1 hx).1; simpa using this
    have e : (cur.toList.take (ws.length * 1))[j]? = some (.string x) := by
      rw [ht]
      simp only [wcells, List.getElem?_map] at hx ⊢
      cases hw : ws[j]? with
      | none => rw [hw] at hx; cases hx
      | some z => rw [hw] at hx; cases hx; rfl
    rw [List.getElem?_take_of_lt (by omega)] at e
    simp only [World.cell?, hg]
    rw [Nat.zero_add, ← Array.getElem?_toList]; exact e

theorem word_any (s : ByteArray) (w : World) (hT : Tabs w) (hs : s.size ≤ 8796093022208) :
    Calls Tryz.prog 104 #[.string s] w fun e w' => e = .returned (.string (mk (wordL (bs s)))) ∧ Below w.heap.size w w' := by
  have c1 := qplain_any s w hT (by unfold maxLen; omega)
  have c2 := fun W hT => qquote_any s W hT hs
  cases hp : plainL (bs s) with
  | true =>
    rw [hp] at c1
    rw [show mk (wordL (bs s)) = s by unfold wordL; rw [if_pos hp, mk_bs]]
    go_enter Tryz.func104, Tryz.ntmps104
    go_wp2_with (go_at_call 90; refine c1.mono ?_; rintro e w1 ⟨rfl, hB1⟩)
    go_ret
    exact ⟨rfl, hB1⟩
  | false =>
    rw [hp] at c1
    rw [show wordL (bs s) = quoteL (bs s) by unfold wordL; rw [if_neg (by rw [hp]; decide)]]
    generalize mk (quoteL (bs s)) = Z at *
    go_enter Tryz.func104, Tryz.ntmps104
    go_wp2_with first
      | (go_at_call 90; refine c1.mono ?_; rintro e w1 ⟨rfl, hB1⟩; have hT1 := hT.below hB1)
      | (go_at_call 112; refine (c2 _ hT1).mono ?_; rintro e w2 ⟨rfl, hB2⟩)
    go_ret
    exact ⟨rfl, hB1.trans (hB2.mono hB1.size)⟩

abbrev Bld (w0 : World) (l : List UInt8) (W : World) : Prop := BldAt w0.heap.size w0.heap.size l W
theorem Bld.below {w0 W W' : World} {l : List UInt8} (h : Bld w0 l W) (hb : Below W.heap.size W W') : Bld w0 l W' := by
  have key : ∀ p, Lib.BuilderAt 91 5 w0.heap.size w0.heap.size p (cellsOf l) W → Lib.BuilderAt 91 5 w0.heap.size w0.heap.size p (cellsOf l) W' := by
    rintro p ⟨h0, v, hv, ho, hn⟩
    exact ⟨h0, v, (hb.block _ (Array.getElem?_eq_some_iff.1 hv).1).trans hv, ho.kept (row := none) ⟨hb.os, hb.tape, hb.output, hb.size, fun k hk _ => hb.block k hk⟩ (by cases v.ownBlock <;> simp), hn⟩
  rcases h with h | h
  · exact .inl (key _ h)
  · exact .inr (key _ h)
theorem bld_new (w : World) : Bld w [] (w.alloc (.cells #[.pointer none, .slice none 0 0] 91)) :=
  .inl ⟨Nat.le_refl _, .slice none 0 0, World.alloc_heap_new _ _, World.ownsRow_nil _ _ _ _, fun h => by cases h⟩
theorem take_snoc (l : List ByteArray) (k : Nat) (x : ByteArray) (hx : l[k]? = some x) : (l.take (k + 1)).map bs = (l.take k).map bs ++ [bs x] := by
  obtain ⟨hk, rfl⟩ := List.getElem?_eq_some_iff.1 hx
  rw [List.take_succ_eq_append_getElem hk, List.map_append]; rfl

set_option maxHeartbeats 2000000 in
theorem line_any (w : World) (a : Option Addr) (n c : Nat) (l : List ByteArray) (h : Strs w a n l) (hT : Tabs w) (hl : ∀ x ∈ l, x.size ≤ 1048576) (hn : n ≤ 1048576) (hsum : ∀ k, (lineL ((l.take k).map bs)).length ≤ 100000000) :
    Calls Tryz.prog 80 #[.slice a n c] w fun e w' => e = .returned (.string (mk (lineL (l.map bs)))) ∧ Below w.heap.size w w' := by
  go_enter Tryz.func80, Tryz.ntmps80
  go_wp2
  go_loopw [8] (fun i wr => ∃ k : Nat, k ≤ n ∧ i = .int .i64 k ∧ Hid (Bld w (lineL ((l.take k).map bs)) wr ∧ Below w.heap.size w wr)) (fun i _ => n - (intOf i).toNat)
  case atStart => exact ⟨0, Nat.zero_le _, rfl, by simpa [lineL] using bld_new w, (Below.refl _ w).alloc (Nat.le_refl _) _⟩
  case round =>
    obtain ⟨k, hk, rfl, H⟩ := hrel
    by_cases hlt : k < n
    · obtain ⟨x, hx⟩ : ∃ x, l[k]? = some x := ⟨_, List.getElem?_eq_getElem (by rw [h.1]; exact hlt)⟩
      obtain ⟨b1, o1, rfl, hc1⟩ := h.2 (by omega)
      have q1 : wr.cell? ⟨b1, o1 + k, none⟩ = some (.string x) := (H.out.2.cell (p := ⟨b1, o1 + k, none⟩) (World.block_lt_of_cell? w _ (hc1 k x hx))).trans (hc1 k x hx)
      have i1 : (k : Int) < (n : Int) := by omega
      have i2 : ¬ n ≤ k := by omega
      have hxs : x.size ≤ 1048576 := hl x (List.mem_of_getElem? hx)
      have HS : Hid (lineL ((l.take (k + 1)).map bs) = lineL ((l.take k).map bs) ++ (if (l.take k).map bs = [] then [] else [32]) ++ wordL (bs x)) := by
        show _ = _
        rw [take_snoc l k x hx, lineL_snoc]
      have HL := hsum (k + 1)
      have cw := fun W hT => word_any x W hT (by omega)
      have hT1 := hT.below H.out.2
      have hz : (l.take k).map bs = [] ↔ k = 0 := by
        rw [List.map_eq_nil_iff, List.take_eq_nil_iff]
        have : l ≠ [] := fun e => by rw [e] at h; have := h.1; simp at this; omega
        simp [this]
      rw [HS.out, List.length_append, List.length_append] at HL
      obtain ⟨L, hL⟩ : ∃ L, L = lineL ((l.take k).map bs) := ⟨_, rfl⟩
      have hZs : (mk (wordL (bs x))).size = (wordL (bs x)).length := by rw [← bs_len, bs_mk]
      have HZ : Hid (bs (mk (wordL (bs x))) = wordL (bs x)) := bs_mk _
      rw [← hL] at HL H HS
      clear hL
      obtain ⟨Y, hY⟩ : ∃ Y, Y = wordL (bs x) := ⟨_, rfl⟩
      rw [← hY] at HL HS HZ cw hZs
      clear hY
      generalize hZ : mk Y = Z at *
      clear hZ
      have hLn : L.length + Y.length ≤ 100000001 := by omega
      clear hc1 hx h hl hsum
      by_cases h0 : k = 0
      · rw [if_pos (hz.2 h0), List.append_nil] at HS
        subst h0
        simp only [Nat.add_zero] at q1
        go_wp2_with first
          | (go_at_call 104; refine (cw _ hT1).mono ?_; rintro e w1 ⟨rfl, hB1⟩; have H1 : Hid (Bld w L w1 ∧ Below w.heap.size w w1) := ⟨H.out.1.below hB1, H.out.2.trans (hB1.mono H.out.2.size)⟩; clear hB1)
          | (go_at_call 58; refine (writeString_any w.heap.size w.heap.size L _ _ H1.out.1 (by rw [hZs]; omega) H1.out.2.size).mono ?_; rintro e w2 ⟨rfl, hb2, hB2⟩; have H2 : Hid (Bld w (L ++ Y) w2 ∧ Below w.heap.size w w2) := ⟨by rw [HZ.out] at hb2; exact hb2, H1.out.2.trans hB2⟩; clear hb2 hB2)
        go_roundw
        case rel => exact ⟨0 + 1, by omega, by simp, by rw [HS.out]; exact H2.out⟩
        case measure => simp [intOf]; omega
      · have ne : ¬ (l.take k).map bs = [] := fun e => h0 (hz.1 e)
        rw [if_neg ne] at HS
        have i0 : (0 : Int) < (k : Int) := by omega
        go_wp2_with first
          | (go_at_call 59; refine (writeByte_any w.heap.size w.heap.size L 32 _ H.out.1 (by omega) H.out.2.size).mono ?_; rintro e w0 ⟨rfl, hb0, hB0⟩; have H0 : Hid (Bld w (L ++ [32]) w0 ∧ Below w.heap.size w w0) := ⟨hb0, H.out.2.trans hB0⟩; have hT0 := hT.below H0.out.2; clear hb0 hB0)
          | (go_at_call 104; refine (cw _ hT0).mono ?_; rintro e w1 ⟨rfl, hB1⟩; have H1 : Hid (Bld w (L ++ [32]) w1 ∧ Below w.heap.size w w1) := ⟨H0.out.1.below hB1, H0.out.2.trans (hB1.mono H0.out.2.size)⟩; clear hB1)
          | (go_at_call 58; refine (writeString_any w.heap.size w.heap.size (L ++ [32]) _ _ H1.out.1 (by rw [hZs, List.length_append]; simp; omega) H1.out.2.size).mono ?_; rintro e w2 ⟨rfl, hb2, hB2⟩; have H2 : Hid (Bld w (L ++ [32] ++ Y) w2 ∧ Below w.heap.size w w2) := ⟨by rw [HZ.out] at hb2; exact hb2, H1.out.2.trans hB2⟩; clear hb2 hB2)
        go_roundw
        case rel => exact ⟨k + 1, by omega, by simp, by rw [HS.out]; exact H2.out⟩
        case measure => simp [intOf]; omega
    · obtain rfl : k = n := by omega
      have ilt : ¬ (k : Int) < (k : Int) := by omega
      have hf : l.take k = l := List.take_of_length_le (by rw [h.1]; exact Nat.le_refl _)
      rw [hf] at H
      clear hf
      have cs := Tryz.Builder_String_any w.heap.size w.heap.size (lineL (l.map bs)) wr H.out.1 H.out.2.size
      have HB := H.out.2
      rw [show (⟨(lineL (l.map bs)).toArray⟩ : ByteArray) = mk (lineL (l.map bs)) from rfl] at cs
      obtain ⟨Z, hZ⟩ : ∃ Z, Z = mk (lineL (l.map bs)) := ⟨_, rfl⟩
      have HZ : Hid (Z = mk (lineL (l.map bs))) := hZ
      rw [← hZ] at cs
      clear H hZ
      go_wp2_with (go_at_call 60; refine cs.mono ?_; rintro e w2 ⟨rfl, hB2⟩)
      go_ret
      exact ⟨by rw [← HZ.out]; rfl, HB.trans hB2⟩

end Go.Proofs.YtggnglgehobglaaGreatDoor

/- The walks of isPath, Check, wordOf, wordsOf, Line. -/
namespace Go.Proofs.YtggnglgehobglaaGreatDoor
open Go.RowKit Go.Shelf

attribute [local go_sem] Oper.semAt_some

theorem wordOf_any (s : ByteArray) (w : World) : Calls Tryz.prog 105 #[.string s] w fun e w' => e = .returned (.string (mk (wdP (bs s)))) ∧ w' = w := by
  by_cases hs : bs s = []
  · obtain rfl : s = ⟨#[]⟩ := bs_inj hs
    clear hs
    go_enter Tryz.func105, Tryz.ntmps105
    go_wp2
    go_ret
    exact ⟨rfl, rfl⟩
  · have hem : s.toList.isEmpty = false := by rw [str_empty]; exact decide_eq_false hs
    have HE : Hid (mk (wdP (bs s)) = s) := by
      show _ = _
      unfold wdP
      rw [if_neg hs, mk_bs]
    clear hs
    go_enter Tryz.func105, Tryz.ntmps105
    go_wp2
    go_ret
    exact ⟨by rw [HE.out]; rfl, rfl⟩
end Go.Proofs.YtggnglgehobglaaGreatDoor
